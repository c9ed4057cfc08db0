/-
  Expressions of tariffs as plain data; no program in it.
-/
namespace Go.Proofs.Ytdpefmjlmpjjbaa.Rule
set_option linter.unusedVariables false

/-- an expression -/
inductive Ex where
  | mk (kind num : Int) (meter : ByteArray) (kids : List Ex) (tiers : List (Int × Int))

namespace Ex
def kind : Ex → Int | .mk k _ _ _ _ => k
def num : Ex → Int | .mk _ n _ _ _ => n
def meter : Ex → ByteArray | .mk _ _ m _ _ => m
def kids : Ex → List Ex | .mk _ _ _ ks _ => ks
def tiers : Ex → List (Int × Int) | .mk _ _ _ _ ts => ts
end Ex

def E0 : Ex := .mk 0 0 ByteArray.empty [] []

mutual
/-- how many expressions -/
def cnt : Ex → Nat | .mk _ _ _ ks _ => 1 + cntL ks
def cntL : List Ex → Nat | [] => 0 | e :: es => cnt e + cntL es
end
mutual
/-- how deep -/
def dep : Ex → Nat | .mk _ _ _ ks _ => depL ks + 1
def depL : List Ex → Nat | [] => 0 | e :: es => max (dep e) (depL es)
end
mutual
/-- how much of it there is: letters, kids and steps -/
def wt : Ex → Nat | .mk _ _ m ks ts => m.size + wtL ks + ts.length
def wtS : List Ex → Nat | [] => 0 | e :: es => wt e + wtS es
/-- .. of a list: its elements count, too -/
def wtL : List Ex → Nat | [] => 0 | e :: es => 1 + wt e + wtL es
end

theorem cnt_eq (e : Ex) : cnt e = 1 + cntL e.kids := by cases e; rfl
theorem dep_eq (e : Ex) : dep e = depL e.kids + 1 := by cases e; rfl
theorem wt_eq (e : Ex) : wt e = e.meter.size + wtL e.kids + e.tiers.length := by cases e; rfl
theorem wtL_eq : ∀ l : List Ex, wtL l = l.length + wtS l
  | [] => rfl
  | e :: es => by rw [wtL, wtS, wtL_eq es]; simp; omega

theorem take_at {l : List Ex} {k : Nat} (h : k < l.length) : l.take (k + 1) = l.take k ++ [l.getD k E0] := by
  rw [List.take_add_one, List.getElem?_eq_getElem h]; simp [List.getD, h]
theorem wtS_append : ∀ a b : List Ex, wtS (a ++ b) = wtS a + wtS b
  | [], b => by simp [wtS]
  | e :: es, b => by rw [List.cons_append, wtS, wtS, wtS_append es b]; omega
theorem wtS_take {l : List Ex} {k : Nat} (h : k < l.length) : wtS (l.take (k + 1)) = wtS (l.take k) + wt (l.getD k E0) := by
  rw [take_at h, wtS_append]; simp [wtS]
theorem wtS_le (l : List Ex) (k : Nat) : wtS (l.take k) ≤ wtS l := by
  have h := wtS_append (l.take k) (l.drop k)
  rw [List.take_append_drop] at h
  omega
theorem wt_at {l : List Ex} {k : Nat} (h : k < l.length) : wt (l.getD k E0) + l.length ≤ wtL l := by
  have h1 := wtS_take h
  have h2 := wtS_le l (k + 1)
  rw [wtL_eq]; omega
theorem cntL_append : ∀ a b : List Ex, cntL (a ++ b) = cntL a + cntL b
  | [], b => by simp [cntL]
  | e :: es, b => by rw [List.cons_append, cntL, cntL, cntL_append es b]; omega
theorem cntL_take {l : List Ex} {k : Nat} (h : k < l.length) : cntL (l.take (k + 1)) = cntL (l.take k) + cnt (l.getD k E0) := by
  rw [take_at h, cntL_append]; simp [cntL]
theorem cntL_le (l : List Ex) (k : Nat) : cntL (l.take k) ≤ cntL l := by
  have h := cntL_append (l.take k) (l.drop k)
  rw [List.take_append_drop] at h
  omega
theorem depL_append : ∀ a b : List Ex, depL (a ++ b) = max (depL a) (depL b)
  | [], b => by simp [depL]
  | e :: es, b => by rw [List.cons_append, depL, depL, depL_append es b]; omega
theorem depL_take {l : List Ex} {k : Nat} (h : k < l.length) : depL (l.take (k + 1)) = max (depL (l.take k)) (dep (l.getD k E0)) := by
  rw [take_at h, depL_append]; simp [depL]
theorem depL_le (l : List Ex) (k : Nat) : depL (l.take k) ≤ depL l := by
  have h := depL_append (l.take k) (l.drop k)
  rw [List.take_append_drop] at h
  omega
mutual
theorem cnt_wt : ∀ e : Ex, cnt e ≤ 1 + wt e
  | .mk k n m ks ts => by rw [cnt, wt]; have := cntL_wt ks; omega
theorem cntL_wt : ∀ l : List Ex, cntL l ≤ wtL l
  | [] => by simp [cntL, wtL]
  | e :: es => by rw [cntL, wtL]; have := cnt_wt e; have := cntL_wt es; omega
end
mutual
theorem dep_cnt : ∀ e : Ex, dep e ≤ cnt e
  | .mk k n m ks ts => by rw [cnt, dep]; have := depL_cnt ks; omega
theorem depL_cnt : ∀ l : List Ex, depL l ≤ cntL l
  | [] => by simp [cntL, depL]
  | e :: es => by rw [cntL, depL]; have := dep_cnt e; have := depL_cnt es; omega
end
end Go.Proofs.Ytdpefmjlmpjjbaa.Rule
