/-
  Texts of this proof laid together, in build order; each says of itself what it holds.
-/
import Derived.Test.YtnchgeiinkaefaaGreatDoorProg
import Derived.Maps.Own
import Derived.Maps.OwnSet
import Derived.Sort.KeysCollected
import Derived.RangeFuncNested
import Derived.WalkKit
import Derived.Below
import Derived.Deep.OwnRows
import Derived.WalkMore
import Derived.Outline
import Derived.Laws.Externs
import Derived.Deep.QuietTactic
import Derived.BigQuiet
section
/-
  Plain arithmetic of amounts: what the functions of chapter 1 answer, as functions on whole numbers; no program in it.
-/
namespace Go.Proofs.YtnchgeiinkaefaaGreatDoor.Coin
set_option linter.unusedVariables false

def okB (n : Int) : Bool := decide (-1000000000000000 ≤ n ∧ n ≤ 1000000000000000)
theorem okB_true {n : Int} (h : -1000000000000000 ≤ n ∧ n ≤ 1000000000000000) : okB n = true := by simp [okB, h]
theorem okB_false {n : Int} (h : ¬ (-1000000000000000 ≤ n ∧ n ≤ 1000000000000000)) : okB n = false := by simp only [okB, decide_eq_false_iff_not]; exact h
theorem okB_iff {n : Int} : okB n = true ↔ -1000000000000000 ≤ n ∧ n ≤ 1000000000000000 := by simp [okB]

/-- the number without its sign -/
def sz (a : Int) : Int := if a < 0 then -a else a
theorem sz_neg {a : Int} (h : a < 0) : sz a = -a := by simp [sz, h]
theorem sz_pos {a : Int} (h : 0 ≤ a) : sz a = a := by simp only [sz]; rw [if_neg (by omega)]
theorem sz_nonneg (a : Int) : 0 ≤ sz a := by unfold sz; split <;> omega

/-- is the product of two amounts an amount? -/
def fitB (a b : Int) : Bool := okB a && okB b && decide (sz a * sz b ≤ 1000000000000000)

theorem sz_mul_le {a b : Int} (h : sz a * sz b ≤ 1000000000000000) : -1000000000000000 ≤ a * b ∧ a * b ≤ 1000000000000000 := by
  unfold sz at h
  split at h <;> split at h
  · rw [Int.neg_mul_neg] at h; have : 0 ≤ a * b := Int.mul_nonneg_of_nonpos_of_nonpos (by omega) (by omega); omega
  · rw [Int.neg_mul] at h; have : a * b ≤ 0 := Int.mul_nonpos_of_nonpos_of_nonneg (by omega) (by omega); omega
  · rw [Int.mul_neg] at h; have : a * b ≤ 0 := Int.mul_nonpos_of_nonneg_of_nonpos (by omega) (by omega); omega
  · have : 0 ≤ a * b := Int.mul_nonneg (by omega) (by omega); omega

theorem div_test {x y : Int} (hx : 1 ≤ x) (hy : 0 ≤ y) : 1000000000000000 / x < y ↔ ¬ x * y ≤ 1000000000000000 := by
  rw [Int.ediv_lt_iff_lt_mul (by omega), Int.mul_comm y x]; omega

theorem fit_zero {b : Int} (hb : okB b = true) : fitB 0 b = true := by
  unfold fitB; rw [hb]; simp [okB, sz]
theorem fit_comm (a b : Int) : fitB a b = fitB b a := by
  unfold fitB; rw [Int.mul_comm (sz a), Bool.and_comm (okB a)]
theorem fit_yes {a b : Int} (ha : okB a = true) (hb : okB b = true) (h0 : a ≠ 0) (h : ¬ 1000000000000000 / sz a < sz b) : fitB a b = true := by
  have h1 : 1 ≤ sz a := by unfold sz; split <;> omega
  rw [div_test h1 (sz_nonneg b)] at h
  unfold fitB; rw [ha, hb]; simp; omega
theorem fit_no {a b : Int} (h0 : a ≠ 0) (h : 1000000000000000 / sz a < sz b) : fitB a b = false := by
  have h1 : 1 ≤ sz a := by unfold sz; split <;> omega
  rw [div_test h1 (sz_nonneg b)] at h
  unfold fitB; simp; intros; omega
theorem fit_ok {a b : Int} (h : fitB a b = true) : okB a = true ∧ okB b = true ∧ -1000000000000000 ≤ a * b ∧ a * b ≤ 1000000000000000 := by
  unfold fitB at h; simp only [Bool.and_eq_true, decide_eq_true_eq] at h
  exact ⟨h.1.1, h.1.2, sz_mul_le h.2⟩

/-- what CoinTimes answers -/
def timesV (a b : Int) : Int := if fitB a b = true then a * b else 0
theorem timesV_yes {a b : Int} (h : fitB a b = true) : timesV a b = a * b := by simp [timesV, h]
theorem timesV_no {a b : Int} (h : fitB a b = false) : timesV a b = 0 := by simp [timesV, h]

/-- rounded to the nearest, to the even one of two that are as near -/
def rndE (q r d : Int) : Int := if d < 2 * r ∨ (2 * r = d ∧ q % 2 ≠ 0) then q + 1 else q
theorem rndE_up {q r d : Int} (h : d < 2 * r) : rndE q r d = q + 1 := by simp [rndE, h]
theorem rndE_tie {q r d : Int} (h : 2 * r = d) (h' : q % 2 ≠ 0) : rndE q r d = q + 1 := by simp [rndE, h, h']
theorem rndE_even {q r d : Int} (h : 2 * r = d) (h' : q % 2 = 0) : rndE q r d = q := by
  unfold rndE; rw [if_neg]; rintro (h1 | h1)
  · omega
  · omega
theorem rndE_low {q r d : Int} (h : 2 * r < d) : rndE q r d = q := by
  unfold rndE; rw [if_neg]; rintro (h1 | h1) <;> omega
theorem rndE_bd (q r d : Int) : q ≤ rndE q r d ∧ rndE q r d ≤ q + 1 := by unfold rndE; split <;> omega

theorem prodBd {x n d : Int} (hn : 0 ≤ n) (hn' : n ≤ 1000000) (hd : 1 ≤ d) (hd' : d ≤ 16000000) : 0 ≤ x % d * n ∧ x % d * n ≤ 16000000000000 := by
  have h1 : 0 ≤ x % d := Int.emod_nonneg _ (by omega)
  have h2 : x % d < d := Int.emod_lt_of_pos _ (by omega)
  refine ⟨Int.mul_nonneg h1 hn, ?_⟩
  have h3 : x % d * n ≤ 16000000 * 1000000 := Int.mul_le_mul (by omega) hn' hn (by omega)
  omega
theorem divBd {y d : Int} (h : 0 ≤ y) (hd : 1 ≤ d) : 0 ≤ y / d ∧ y / d ≤ y ∧ 0 ≤ y % d ∧ y % d < d := by
  refine ⟨Int.ediv_nonneg h (by omega), ?_, Int.emod_nonneg _ (by omega), Int.emod_lt_of_pos _ (by omega)⟩
  exact Int.ediv_le_self _ h

/-- the sum of two amounts, where it is told -/
def addB (a b : Int) : Bool := okB a && okB b && okB (a + b)
def addV (a b : Int) : Int := if addB a b = true then a + b else 0

/-- what CoinPart answers: is it told, and what -/
def partB (a n d : Int) : Bool := okB a && decide (0 ≤ n ∧ n ≤ 1000000 ∧ 1 ≤ d ∧ d ≤ 1000000) && fitB (sz a / d) n && okB (rndE (sz a / d * n + sz a % d * n / d) (sz a % d * n % d) d)
def partV (a n d : Int) : Int := if partB a n d = true then (if a < 0 then -(rndE (sz a / d * n + sz a % d * n / d) (sz a % d * n % d) d) else rndE (sz a / d * n + sz a % d * n / d) (sz a % d * n % d) d) else 0

theorem okB_neg (n : Int) : okB (-n) = okB n := by unfold okB; congr 1; apply propext; omega
theorem partB_iff {a n d : Int} (h : partB a n d = true) : okB a = true ∧ 0 ≤ n ∧ n ≤ 1000000 ∧ 1 ≤ d ∧ d ≤ 1000000 ∧ fitB (sz a / d) n = true ∧ okB (rndE (sz a / d * n + sz a % d * n / d) (sz a % d * n % d) d) = true := by
  unfold partB at h
  simp only [Bool.and_eq_true, decide_eq_true_eq] at h
  exact ⟨h.1.1.1, h.1.1.2.1, h.1.1.2.2.1, h.1.1.2.2.2.1, h.1.1.2.2.2.2, h.1.2, h.2⟩
theorem part_bd (a n d : Int) : -1000000000000000 ≤ partV a n d ∧ partV a n d ≤ 1000000000000000 := by
  unfold partV
  cases hB : partB a n d
  · simp
  · have hp := okB_iff.1 (partB_iff hB).2.2.2.2.2.2
    simp only [if_true]
    split <;> omega

theorem addV_yes {a b : Int} (h : addB a b = true) : addV a b = a + b := by simp [addV, h]
theorem addV_no {a b : Int} (h : addB a b = false) : addV a b = 0 := by simp [addV, h]
end Go.Proofs.YtnchgeiinkaefaaGreatDoor.Coin
end

section
/-
  Expressions of tariffs as plain data; no program in it.
-/
namespace Go.Proofs.YtnchgeiinkaefaaGreatDoor.Rule
set_option linter.unusedVariables false

/-- an expression -/
inductive Ex where
  | mk (kind num : Int) (meter : ByteArray) (kids : List Ex) (tiers : List (Int × Int))

namespace Ex
def kind : Ex → Int | .mk k _ _ _ _ => k
def num : Ex → Int | .mk _ n _ _ _ => n
def meter : Ex → ByteArray | .mk _ _ m _ _ => m
def kids : Ex → List Ex | .mk _ _ _ ks _ => ks
def tiers : Ex → List (Int × Int) | .mk _ _ _ _ ts => ts
end Ex

def E0 : Ex := .mk 0 0 ByteArray.empty [] []

mutual
/-- how many expressions -/
def cnt : Ex → Nat | .mk _ _ _ ks _ => 1 + cntL ks
def cntL : List Ex → Nat | [] => 0 | e :: es => cnt e + cntL es
end
mutual
/-- how deep -/
def dep : Ex → Nat | .mk _ _ _ ks _ => depL ks + 1
def depL : List Ex → Nat | [] => 0 | e :: es => max (dep e) (depL es)
end
mutual
/-- how much of it there is: letters, kids and steps -/
def wt : Ex → Nat | .mk _ _ m ks ts => m.size + wtL ks + ts.length
def wtS : List Ex → Nat | [] => 0 | e :: es => wt e + wtS es
/-- .. of a list: its elements count, too -/
def wtL : List Ex → Nat | [] => 0 | e :: es => 1 + wt e + wtL es
end

theorem cnt_eq (e : Ex) : cnt e = 1 + cntL e.kids := by cases e; rfl
theorem dep_eq (e : Ex) : dep e = depL e.kids + 1 := by cases e; rfl
theorem wt_eq (e : Ex) : wt e = e.meter.size + wtL e.kids + e.tiers.length := by cases e; rfl
theorem wtL_eq : ∀ l : List Ex, wtL l = l.length + wtS l
  | [] => rfl
  | e :: es => by rw [wtL, wtS, wtL_eq es]; simp; omega

theorem take_at {l : List Ex} {k : Nat} (h : k < l.length) : l.take (k + 1) = l.take k ++ [l.getD k E0] := by
  rw [List.take_add_one, List.getElem?_eq_getElem h]; simp [List.getD, h]
theorem wtS_append : ∀ a b : List Ex, wtS (a ++ b) = wtS a + wtS b
  | [], b => by simp [wtS]
  | e :: es, b => by rw [List.cons_append, wtS, wtS, wtS_append es b]; omega
theorem wtS_take {l : List Ex} {k : Nat} (h : k < l.length) : wtS (l.take (k + 1)) = wtS (l.take k) + wt (l.getD k E0) := by
  rw [take_at h, wtS_append]; simp [wtS]
theorem wtS_le (l : List Ex) (k : Nat) : wtS (l.take k) ≤ wtS l := by
  have h := wtS_append (l.take k) (l.drop k)
  rw [List.take_append_drop] at h
  omega
theorem wt_at {l : List Ex} {k : Nat} (h : k < l.length) : wt (l.getD k E0) + l.length ≤ wtL l := by
  have h1 := wtS_take h
  have h2 := wtS_le l (k + 1)
  rw [wtL_eq]; omega
theorem cntL_append : ∀ a b : List Ex, cntL (a ++ b) = cntL a + cntL b
  | [], b => by simp [cntL]
  | e :: es, b => by rw [List.cons_append, cntL, cntL, cntL_append es b]; omega
theorem cntL_take {l : List Ex} {k : Nat} (h : k < l.length) : cntL (l.take (k + 1)) = cntL (l.take k) + cnt (l.getD k E0) := by
  rw [take_at h, cntL_append]; simp [cntL]
theorem cntL_le (l : List Ex) (k : Nat) : cntL (l.take k) ≤ cntL l := by
  have h := cntL_append (l.take k) (l.drop k)
  rw [List.take_append_drop] at h
  omega
theorem depL_append : ∀ a b : List Ex, depL (a ++ b) = max (depL a) (depL b)
  | [], b => by simp [depL]
  | e :: es, b => by rw [List.cons_append, depL, depL, depL_append es b]; omega
theorem depL_take {l : List Ex} {k : Nat} (h : k < l.length) : depL (l.take (k + 1)) = max (depL (l.take k)) (dep (l.getD k E0)) := by
  rw [take_at h, depL_append]; simp [depL]
theorem depL_le (l : List Ex) (k : Nat) : depL (l.take k) ≤ depL l := by
  have h := depL_append (l.take k) (l.drop k)
  rw [List.take_append_drop] at h
  omega
mutual
theorem cnt_wt : ∀ e : Ex, cnt e ≤ 1 + wt e
  | .mk k n m ks ts => by rw [cnt, wt]; have := cntL_wt ks; omega
theorem cntL_wt : ∀ l : List Ex, cntL l ≤ wtL l
  | [] => by simp [cntL, wtL]
  | e :: es => by rw [cntL, wtL]; have := cnt_wt e; have := cntL_wt es; omega
end
mutual
theorem dep_cnt : ∀ e : Ex, dep e ≤ cnt e
  | .mk k n m ks ts => by rw [cnt, dep]; have := depL_cnt ks; omega
theorem depL_cnt : ∀ l : List Ex, depL l ≤ cntL l
  | [] => by simp [cntL, depL]
  | e :: es => by rw [cntL, depL]; have := dep_cnt e; have := depL_cnt es; omega
end
end Go.Proofs.YtnchgeiinkaefaaGreatDoor.Rule
end

section
/-
  What so many units cost by steps, as a function on numbers; no program in it.
-/
namespace Go.Proofs.YtnchgeiinkaefaaGreatDoor.Tiers
set_option linter.unusedVariables false
open Coin

/-- how many units fall to a step -/
def nOf (x q : Int) : Int := if 0 < x ∧ x < q then x else q
/-- what q units cost by steps, behind what cost out so far -/
def stepF : List (Int × Int) → Int → Int → Option Int
  | [], q, out => some out
  | t :: ts, q, out => if q ≤ 0 then some out else if fitB (nOf t.1 q) t.2 = true ∧ addB out (nOf t.1 q * t.2) = true then stepF ts (q - nOf t.1 q) (out + nOf t.1 q * t.2) else none

theorem nOf_small {x q : Int} (h : 0 < x) (h' : x < q) : nOf x q = x := if_pos ⟨h, h'⟩
theorem nOf_all {x q : Int} (h : ¬ (0 < x ∧ x < q)) : nOf x q = q := if_neg h
theorem stepF_end (l : List (Int × Int)) {q out : Int} (h : q ≤ 0) : stepF l q out = some out := by cases l <;> simp [stepF, h]
theorem drop_at {l : List (Int × Int)} {k : Nat} (h : k < l.length) : l.drop k = l.getD k (0, 0) :: l.drop (k + 1) := by
  rw [List.drop_eq_getElem_cons h]; simp [List.getD, h]
theorem stepF_go {l : List (Int × Int)} {k : Nat} {q out : Int} (hk : k < l.length) (hq : 0 < q) (hf : fitB (nOf (l.getD k (0, 0)).1 q) (l.getD k (0, 0)).2 = true) (ha : addB out (nOf (l.getD k (0, 0)).1 q * (l.getD k (0, 0)).2) = true) :
    stepF (l.drop k) q out = stepF (l.drop (k + 1)) (q - nOf (l.getD k (0, 0)).1 q) (out + nOf (l.getD k (0, 0)).1 q * (l.getD k (0, 0)).2) := by
  rw [drop_at hk, stepF, if_neg (by omega), if_pos ⟨hf, ha⟩]
theorem stepF_no {l : List (Int × Int)} {k : Nat} {q out : Int} (hk : k < l.length) (hq : 0 < q) (h : fitB (nOf (l.getD k (0, 0)).1 q) (l.getD k (0, 0)).2 = false ∨ addB out (nOf (l.getD k (0, 0)).1 q * (l.getD k (0, 0)).2) = false) :
    stepF (l.drop k) q out = none := by
  rw [drop_at hk, stepF, if_neg (by omega), if_neg]
  rintro ⟨h1, h2⟩
  rcases h with h | h
  · rw [h1] at h; cases h
  · rw [h2] at h; cases h
theorem stepF_nil {l : List (Int × Int)} {k : Nat} {q out : Int} (h : l.length ≤ k) : stepF (l.drop k) q out = some out := by
  rw [List.drop_eq_nil_of_le h]; rfl
end Go.Proofs.YtnchgeiinkaefaaGreatDoor.Tiers
end

section
/-
  Expressions that name a certain meter nowhere; no program in it.
-/
namespace Go.Proofs.YtnchgeiinkaefaaGreatDoor.Rule
set_option linter.unusedVariables false

mutual
/-- no meter of it is this -/
def noE (o : ByteArray) : Ex → Prop | .mk _ _ m ks _ => m ≠ o ∧ noL o ks
def noL (o : ByteArray) : List Ex → Prop | [] => True | e :: es => noE o e ∧ noL o es
end
theorem noE_eq (o : ByteArray) (e : Ex) : noE o e = (e.meter ≠ o ∧ noL o e.kids) := by cases e; rfl
theorem noL_at {o : ByteArray} (ho : ByteArray.empty ≠ o) : ∀ {l : List Ex} (_ : noL o l) (i : Nat), noE o (l.getD i E0)
  | [], _, i => by rw [show ([] : List Ex).getD i E0 = E0 by simp]; exact ⟨ho, trivial⟩
  | e :: es, h, 0 => h.1
  | e :: es, h, i + 1 => by rw [show (e :: es).getD (i + 1) E0 = es.getD i E0 by simp]; exact noL_at ho h.2 i
end Go.Proofs.YtnchgeiinkaefaaGreatDoor.Rule
end

section
/-
  How the tax of a rate is shared among its rows: plain mathematics.
-/
namespace Go.Proofs.YtnchgeiinkaefaaGreatDoor.Tax
set_option linter.unusedVariables false

/-- i comes ahead of j: it has the greater rest, or as much and stands first -/
def ahd (r : Nat → Int) (i j : Nat) : Bool := decide (r j < r i) || (decide (r i = r j) && decide (i < j))
/-- how many of the group come ahead of j -/
def cntG (g : Nat → Bool) (r : Nat → Int) (n j : Nat) : Nat := (List.range n).countP fun i => g i && ahd r i j

theorem ahd_iff {r : Nat → Int} {i j : Nat} : ahd r i j = true ↔ r j < r i ∨ (r i = r j ∧ i < j) := by
  unfold ahd; simp
theorem ahd_irr (r : Nat → Int) (i : Nat) : ahd r i i = false := by
  cases h : ahd r i i
  · rfl
  · have := ahd_iff.1 h; omega
theorem ahd_asym {r : Nat → Int} {i j : Nat} (h : ahd r i j = true) : ahd r j i = false := by
  cases h2 : ahd r j i
  · rfl
  · have := ahd_iff.1 h; have := ahd_iff.1 h2; omega
theorem ahd_tri {r : Nat → Int} {i j : Nat} (h : i ≠ j) (h2 : ahd r i j = false) : ahd r j i = true := by
  have h3 : ¬ (r j < r i ∨ (r i = r j ∧ i < j)) := fun h => by rw [ahd_iff.2 h] at h2; cases h2
  exact ahd_iff.2 (by omega)

theorem count_lt {p q : Nat → Bool} : ∀ (n : Nat), (∀ i, i < n → q i = true → p i = true) → ∀ j, p j = true → q j = false → (List.range n).countP q + (if j < n then 1 else 0) ≤ (List.range n).countP p
  | 0, _, j, _, _ => by simp
  | n + 1, h, j, hp, hq => by
    have ih := count_lt n (fun i hi => h i (by omega)) j hp hq
    rw [List.range_succ, List.countP_append, List.countP_append, List.countP_singleton, List.countP_singleton]
    have hn := h n (by omega)
    by_cases e : j = n
    · subst e
      rw [hp, hq]
      simp at ih ⊢
      omega
    · have e1 : (if j < n + 1 then 1 else 0) = (if j < n then 1 else 0) := by
        by_cases h2 : j < n
        · rw [if_pos h2, if_pos (by omega)]
        · rw [if_neg h2, if_neg (by omega)]
      rw [e1]
      cases hqn : q n
      · simp; omega
      · rw [hn hqn]; simp; omega
theorem count_le {p q : Nat → Bool} (n : Nat) (h : ∀ i, i < n → q i = true → p i = true) : (List.range n).countP q ≤ (List.range n).countP p := by
  apply List.countP_mono_left
  intro i hi
  exact h i (List.mem_range.1 hi)
theorem count_add {p : Nat → Bool} {b : Nat} : ∀ (n : Nat), p b = false → (List.range n).countP (fun i => p i || decide (i = b)) = (List.range n).countP p + (if b < n then 1 else 0)
  | 0, _ => by simp
  | n + 1, h => by
    have ih := count_add n h
    rw [List.range_succ, List.countP_append, List.countP_append, List.countP_singleton, List.countP_singleton, ih]
    by_cases e : b = n
    · subst e
      rw [h]; simp
    · have e2 : decide (n = b) = false := decide_eq_false (by omega)
      have e1 : (if b < n + 1 then 1 else 0) = (if b < n then 1 else 0) := by
        by_cases h2 : b < n
        · rw [if_pos h2, if_pos (by omega)]
        · rw [if_neg h2, if_neg (by omega)]
      rw [e1, e2, Bool.or_false]
      omega

/-- p holds of those that got one more already: nobody outside is ahead of one of them -/
def Pk (g : Nat → Bool) (r : Nat → Int) (n : Nat) (p : Nat → Bool) : Prop := (∀ i, i < n → p i = true → g i = true) ∧ ∀ i j, i < n → j < n → g i = true → p j = true → ahd r i j = true → p i = true

theorem Pk.none (g : Nat → Bool) (r : Nat → Int) (n : Nat) : Pk g r n fun _ => false := ⟨fun i _ h => absurd h Bool.false_ne_true, fun i j _ _ _ h _ => absurd h Bool.false_ne_true⟩

theorem Pk.iff {g : Nat → Bool} {r : Nat → Int} {n : Nat} {p : Nat → Bool} (h : Pk g r n p) {j : Nat} (hj : j < n) (hg : g j = true) : p j = decide (cntG g r n j < (List.range n).countP p) := by
  cases hp : p j
  · refine (decide_eq_false ?_).symm
    have := count_le (p := fun i => g i && ahd r i j) (q := p) n (fun i hi h2 => by
      rw [h.1 i hi h2, Bool.true_and]
      by_cases e : i = j
      · subst e; rw [hp] at h2; cases h2
      cases h3 : ahd r i j
      · have h4 := ahd_tri e h3
        rw [h.2 j i hj hi hg h2 h4] at hp; cases hp
      · rfl)
    unfold cntG; omega
  · refine (decide_eq_true ?_).symm
    have := count_lt (p := p) (q := fun i => g i && ahd r i j) n (fun i hi h2 => by
      simp only [Bool.and_eq_true] at h2
      exact h.2 i j hi hj h2.1 hp h2.2) j hp (by simp only [ahd_irr, Bool.and_false])
    rw [if_pos hj] at this
    unfold cntG; omega

/-- b is the best of the first k that got nothing yet -/
def Best (g : Nat → Bool) (r : Nat → Int) (p : Nat → Bool) (k b : Nat) : Prop := b < k ∧ g b = true ∧ p b = false ∧ ∀ i, i < k → g i = true → p i = false → i ≠ b → ahd r b i = true
/-- all of the first k got theirs -/
def All (g p : Nat → Bool) (k : Nat) : Prop := ∀ i, i < k → g i = true → p i = true

theorem Pk.next {g : Nat → Bool} {r : Nat → Int} {n b : Nat} {p : Nat → Bool} (h : Pk g r n p) (hb : Best g r p n b) : Pk g r n (fun i => p i || decide (i = b)) := by
  obtain ⟨h1, h2, h3, h4⟩ := hb
  refine ⟨fun i hi hp => ?_, fun i j hi hj hg hp ha => ?_⟩
  · simp only [Bool.or_eq_true, decide_eq_true_eq] at hp
    rcases hp with hp | rfl
    · exact h.1 i hi hp
    · exact h2
  · simp only [Bool.or_eq_true, decide_eq_true_eq] at hp ⊢
    rcases hp with hp | rfl
    · exact .inl (h.2 i j hi hj hg hp ha)
    · by_cases e : i = j
      · exact .inr e
      · cases hpi : p i
        · have := h4 i hi hg hpi e
          rw [ahd_asym this] at ha; cases ha
        · exact .inl rfl
theorem Best.more {g : Nat → Bool} {r : Nat → Int} {p : Nat → Bool} {k b : Nat} (h : Best g r p k b) (hk : (g k && !p k) = true → r k ≤ r b) : Best g r p (k + 1) b :=
  ⟨by have := h.1; omega, h.2.1, h.2.2.1, fun i hi hg hp hne => by
    by_cases e : i = k
    · subst e
      have := hk (by rw [hg, hp]; rfl)
      have h1 := h.1
      exact ahd_iff.2 (by omega)
    · exact h.2.2.2 i (by omega) hg hp hne⟩
theorem Best.turn {g : Nat → Bool} {r : Nat → Int} {p : Nat → Bool} {k b : Nat} (h : Best g r p k b) (hk : (g k && !p k) = true) (hr : r b < r k) : Best g r p (k + 1) k := by
  simp only [Bool.and_eq_true, Bool.not_eq_true'] at hk
  refine ⟨by omega, hk.1, hk.2, fun i hi hg hp hne => ?_⟩
  by_cases e : i = b
  · subst e; exact ahd_iff.2 (.inl hr)
  · have := ahd_iff.1 (h.2.2.2 i (by omega) hg hp e)
    exact ahd_iff.2 (by omega)
theorem Best.first {g : Nat → Bool} {r : Nat → Int} {p : Nat → Bool} {k : Nat} (h : All g p k) (hk : (g k && !p k) = true) : Best g r p (k + 1) k := by
  simp only [Bool.and_eq_true, Bool.not_eq_true'] at hk
  refine ⟨by omega, hk.1, hk.2, fun i hi hg hp hne => ?_⟩
  rw [h i (by omega) hg] at hp; cases hp
theorem All.more {g p : Nat → Bool} {k : Nat} (h : All g p k) (hk : (g k && !p k) = false) : All g p (k + 1) := fun i hi hg => by
  by_cases e : i = k
  · subst e
    rw [hg] at hk
    simpa using hk
  · exact h i (by omega) hg

/-- what is summed up over the first k of the group -/
def sumG (g : Nat → Bool) (f : Nat → Int) : Nat → Int
  | 0 => 0
  | k + 1 => sumG g f k + if g k then f k else 0
theorem sumG_bd {g : Nat → Bool} {f : Nat → Int} {m : Int} (hm : 0 ≤ m) : ∀ k, (∀ i, i < k → 0 ≤ f i ∧ f i ≤ m) → 0 ≤ sumG g f k ∧ sumG g f k ≤ k * m
  | 0, _ => ⟨Int.le_refl _, by simp [sumG]⟩
  | k + 1, h => by
    have ih := sumG_bd (g := g) hm k (fun i hi => h i (by omega))
    have hk := h k (by omega)
    have e : ((k + 1 : Nat) : Int) * m = k * m + m := by rw [Int.natCast_add, Int.add_mul]; simp
    rw [e]
    unfold sumG
    split <;> omega

/-- each one's part of the tax, rounded down, and what is left -/
def partJ (net : Nat → Int) (q : Int) (j : Nat) : Int := net j / 10000 * q + net j % 10000 * q / 10000
def restJ (net : Nat → Int) (q : Int) (j : Nat) : Int := net j % 10000 * q % 10000
theorem partJ_bd {net : Nat → Int} {q : Int} {j : Nat} (h0 : 0 ≤ net j) (h1 : net j ≤ 1000000000000000) (q0 : 0 ≤ q) (q1 : q ≤ 5000) :
    (0 ≤ net j / 10000 ∧ net j / 10000 ≤ 100000000000) ∧ (0 ≤ net j % 10000 ∧ net j % 10000 < 10000) ∧ (0 ≤ net j / 10000 * q ∧ net j / 10000 * q ≤ 500000000000000) ∧ (0 ≤ net j % 10000 * q ∧ net j % 10000 * q ≤ 50000000) ∧ (0 ≤ net j % 10000 * q / 10000 ∧ net j % 10000 * q / 10000 ≤ 5000) ∧ (0 ≤ partJ net q j ∧ partJ net q j ≤ 500000000005000) ∧ 0 ≤ restJ net q j ∧ restJ net q j < 10000 := by
  have a1 : 0 ≤ net j / 10000 := Int.ediv_nonneg h0 (by omega)
  have a2 : net j / 10000 ≤ 100000000000 := by omega
  have a3 : 0 ≤ net j % 10000 := Int.emod_nonneg _ (by omega)
  have a4 : net j % 10000 < 10000 := Int.emod_lt_of_pos _ (by omega)
  have b1 : 0 ≤ net j / 10000 * q := Int.mul_nonneg a1 q0
  have b2 : net j / 10000 * q ≤ 100000000000 * 5000 := Int.mul_le_mul a2 q1 q0 (by omega)
  have b3 : 0 ≤ net j % 10000 * q := Int.mul_nonneg a3 q0
  have b4 : net j % 10000 * q ≤ 10000 * 5000 := Int.mul_le_mul (by omega) q1 q0 (by omega)
  have c1 : 0 ≤ net j % 10000 * q / 10000 := Int.ediv_nonneg b3 (by omega)
  have c2 : net j % 10000 * q / 10000 ≤ 5000 := by omega
  have d1 : 0 ≤ net j % 10000 * q % 10000 := Int.emod_nonneg _ (by omega)
  have d2 : net j % 10000 * q % 10000 < 10000 := Int.emod_lt_of_pos _ (by omega)
  unfold partJ restJ
  refine ⟨⟨a1, a2⟩, ⟨a3, a4⟩, ⟨b1, by omega⟩, ⟨b3, by omega⟩, ⟨c1, c2⟩, ⟨by omega, by omega⟩, d1, d2⟩

/-- the group of a rate, if there is anything to be shared -/
def grp (rate : Nat → Int) (q S : Int) (j : Nat) : Bool := decide (rate j = q) && decide (0 < S)
/-- what each row owes behind the tax of a rate has been shared -/
def spreadF (net rate old : Nat → Int) (n : Nat) (q S tax : Int) (j : Nat) : Int :=
  if grp rate q S j then partJ net q j + (if (cntG (grp rate q S) (restJ net q) n j : Int) < tax - sumG (grp rate q S) (partJ net q) n then 1 else 0) else old j
end Go.Proofs.YtnchgeiinkaefaaGreatDoor.Tax
end

section
/-
  A map whose keys are texts, as the ascending list of its entries: what a store, a look-up and the sorted keys make of it. No program here.
-/
namespace Go.Proofs.YtnchgeiinkaefaaGreatDoor.MapM
set_option linter.unusedVariables false
open Go Go.Proofs

section
variable {α : Type} (key : α → ByteArray) (val : α → Value)

/-- the bytes of a key -/
abbrev kb (a : α) : List UInt8 := (key a).data.toList
/-- an entry as read -/
abbrev ent (a : α) : Lit × DataW Value := (.string (kb key a), .held (val a))
/-- the map as read -/
def DM (l : List α) : DataW Value := .map (l.map (ent key val))
/-- ascending by the keys -/
def Asc (l : List α) : Prop := l.Pairwise (fun a b => kb key a < kb key b)
/-- where a key is, or belongs -/
def pos (k : List UInt8) (l : List α) : Nat := (l.takeWhile (fun a => decide (kb key a < k))).length

theorem before_eq : ∀ (x y : List UInt8), bytesBefore x y = decide (x < y)
  | [], [] => by simp [bytesBefore]
  | _ :: _, [] => by simp [bytesBefore]
  | [], _ :: _ => by simp [bytesBefore]
  | a :: x, b :: y => by
    rw [bytesBefore, before_eq x y]
    by_cases h : a < b <;> by_cases h' : a = b <;> simp [h, h', List.cons_lt_cons_iff]

theorem lt_asymm {x y : List UInt8} (h : x < y) : ¬ y < x := fun h' => List.lt_irrefl _ (List.lt_trans h h')
theorem lt_tri {x y : List UInt8} (h : ¬ x < y) (hne : x ≠ y) : y < x := by
  rcases Decidable.em (y < x) with h' | h'
  · exact h'
  · exact absurd (List.le_antisymm h' h) hne

theorem pos_le (k : List UInt8) (l : List α) : pos key k l ≤ l.length := (List.takeWhile_prefix _).length_le
theorem pos_cons_lt {k : List UInt8} {a : α} {l : List α} (h : kb key a < k) : pos key k (a :: l) = pos key k l + 1 := by simp [pos, h]
theorem pos_cons_ge {k : List UInt8} {a : α} {l : List α} (h : ¬ kb key a < k) : pos key k (a :: l) = 0 := by simp [pos, h]

/-- those before are smaller, the one there is not -/
theorem pos_spec (k : List UInt8) : ∀ (l : List α) (i : Nat) (hi : i < l.length), (i < pos key k l → kb key l[i] < k) ∧ (i = pos key k l → ¬ kb key l[i] < k)
  | [], i, hi => by simp at hi
  | a :: l, i, hi => by
    by_cases h : kb key a < k
    · rw [pos_cons_lt key h]
      cases i with
      | zero => exact ⟨fun _ => h, fun e => by omega⟩
      | succ i =>
        have := pos_spec k l i (by simpa using hi)
        exact ⟨fun e => this.1 (by omega), fun e => this.2 (by omega)⟩
    · rw [pos_cons_ge key h]
      refine ⟨fun e => by omega, fun e => ?_⟩
      subst e
      exact h
/-- a walk that goes on while the keys are smaller ends there -/
theorem pos_of {k : List UInt8} : ∀ {l : List α} {n : Nat}, n ≤ l.length → (∀ i (hi : i < l.length), i < n → kb key l[i] < k) → (∀ (hn : n < l.length), ¬ kb key l[n] < k) → pos key k l = n
  | [], n, hn, _, _ => by have : n = 0 := by simpa using hn
                          subst this; rfl
  | a :: l, 0, _, _, h => pos_cons_ge key (h (by simp))
  | a :: l, n + 1, hn, h1, h2 => by
    have h0 : kb key a < k := h1 0 (by simp) (by omega)
    rw [pos_cons_lt key h0, pos_of (l := l) (n := n) (by simpa using hn) (fun i hi hin => h1 (i + 1) (by simpa using hi) (by omega)) (fun hn' => h2 (by simpa using hn'))]

theorem filter_none {k : List UInt8} : ∀ (l : List α), (∀ a ∈ l, kb key a ≠ k) → (l.map (ent key val)).filter (fun p => !p.1.sameKey (.string k)) = l.map (ent key val)
  | [], _ => rfl
  | a :: l, h => by
    have h0 : (Lit.string (kb key a)).sameKey (.string k) = false := by simpa [Lit.sameKey] using h a (by simp)
    rw [List.map_cons, List.filter_cons_of_pos (by rw [h0]; rfl), filter_none l (fun b hb => h b (by simp [hb]))]

theorem insert_at (e : α) : ∀ (l : List α), (∀ a ∈ l, kb key a ≠ kb key e) → DataW.insert (ent key val e) (l.map (ent key val)) = (l.take (pos key (kb key e) l) ++ e :: l.drop (pos key (kb key e) l)).map (ent key val)
  | [], _ => rfl
  | a :: l, h => by
    have hb : (Lit.string (kb key e)).before (.string (kb key a)) = decide (kb key e < kb key a) := before_eq _ _
    rw [List.map_cons]
    unfold DataW.insert
    by_cases hlt : kb key a < kb key e
    · have : ¬ kb key e < kb key a := lt_asymm hlt
      rw [hb, decide_eq_false this, pos_cons_lt key hlt, insert_at e l (fun b hb => h b (by simp [hb]))]
      simp
    · have : kb key e < kb key a := lt_tri hlt (h a (by simp))
      rw [hb, decide_eq_true this, pos_cons_ge key hlt]
      simp

/-- a store at a key that is not there -/
theorem put_new (l : List α) (e : α) (h : ∀ a ∈ l, kb key a ≠ kb key e) : (DM key val l).put (.string (kb key e)) (.held (val e)) = DM key val (l.take (pos key (kb key e) l) ++ e :: l.drop (pos key (kb key e) l)) := by
  show DataW.map (DataW.insert (ent key val e) ((l.map (ent key val)).filter fun p => !p.1.sameKey (.string (kb key e)))) = _
  rw [filter_none key val l h, insert_at key val e l h]; rfl

/-- a store at a key that is there -/
theorem put_old : ∀ (l : List α) (e : α) (k : Nat) (hk : k < l.length), Asc key l → kb key l[k] = kb key e → (DM key val l).put (.string (kb key e)) (.held (val e)) = DM key val (l.set k e) := by
  intro l e k hk ha he
  show DataW.map (DataW.insert (ent key val e) ((l.map (ent key val)).filter fun p => !p.1.sameKey (.string (kb key e)))) = _
  have main : ∀ (l : List α) (k : Nat) (hk : k < l.length), Asc key l → kb key l[k] = kb key e → DataW.insert (ent key val e) ((l.map (ent key val)).filter fun p => !p.1.sameKey (.string (kb key e))) = (l.set k e).map (ent key val) := by
    intro l
    induction l with
    | nil => intro k hk; simp at hk
    | cons a l ih =>
      intro k hk ha he
      have hp := List.pairwise_cons.1 ha
      cases k with
      | zero =>
        have hs : (Lit.string (kb key a)).sameKey (.string (kb key e)) = true := by simpa [Lit.sameKey] using he
        have hno : ∀ b ∈ l, kb key b ≠ kb key e := fun b hb h => by
          have h1 : kb key a < kb key b := hp.1 b hb
          have h2 : kb key a = kb key e := he
          rw [h, h2] at h1
          exact List.lt_irrefl _ h1
        have h0 : pos key (kb key e) l = 0 := by
          cases l with
          | nil => rfl
          | cons b l =>
            have h1 : kb key a < kb key b := hp.1 b (by simp)
            have h2 : kb key a = kb key e := he
            rw [h2] at h1
            exact pos_cons_ge key (lt_asymm h1)
        rw [List.map_cons, List.filter_cons_of_neg (by rw [hs]; simp), filter_none key val l hno, insert_at key val e l hno, h0]
        simp
      | succ k =>
        have hk' : k < l.length := by simpa using hk
        have he' : kb key l[k] = kb key e := by simpa using he
        have hlt : kb key a < kb key e := by rw [← he']; exact hp.1 _ (List.getElem_mem hk')
        have hs : (Lit.string (kb key a)).sameKey (.string (kb key e)) = false := by
          have : kb key a ≠ kb key e := fun h => by rw [h] at hlt; exact List.lt_irrefl _ hlt
          simpa [Lit.sameKey] using this
        have hb : (Lit.string (kb key e)).before (.string (kb key a)) = false := by
          show bytesBefore _ _ = false
          rw [before_eq]; exact decide_eq_false (lt_asymm hlt)
        rw [List.map_cons, List.filter_cons_of_pos (by rw [hs]; rfl)]
        unfold DataW.insert
        rw [hb, ih k hk' hp.2 he']
        simp
  rw [main l k hk ha he]; rfl

theorem atKey_hit (z : DataW Value) : ∀ (l : List α) (k : Nat) (hk : k < l.length), Asc key l → (DM key val l).atKey (.string (kb key l[k])) z = .held (val l[k]) := by
  intro l k hk ha
  have main : ∀ (l : List α) (k : Nat) (hk : k < l.length), Asc key l → (l.map (ent key val)).find? (fun p => p.1.sameKey (.string (kb key l[k]))) = some (ent key val l[k]) := by
    intro l
    induction l with
    | nil => intro k hk; simp at hk
    | cons a l ih =>
      intro k hk ha
      have hp := List.pairwise_cons.1 ha
      cases k with
      | zero => rw [List.map_cons, List.find?_cons_of_pos (by simp [Lit.sameKey])]; rfl
      | succ k =>
        have hk' : k < l.length := by simpa using hk
        have hlt : kb key a < kb key l[k] := hp.1 _ (List.getElem_mem hk')
        have hs : (Lit.string (kb key a)).sameKey (.string (kb key l[k])) = false := by
          have : kb key a ≠ kb key l[k] := fun h => by rw [h] at hlt; exact List.lt_irrefl _ hlt
          simpa [Lit.sameKey] using this
        rw [List.map_cons]
        simp only [List.getElem_cons_succ]
        rw [List.find?_cons_of_neg (by rw [hs]; simp)]
        exact ih k hk' hp.2
  unfold DM DataW.atKey
  simp only [main l k hk ha]

theorem find_none {k : List UInt8} : ∀ (l : List α), (∀ a ∈ l, kb key a ≠ k) → (l.map (ent key val)).find? (fun p => p.1.sameKey (.string k)) = none
  | [], _ => rfl
  | a :: l, h => by
    have h0 : (Lit.string (kb key a)).sameKey (.string k) = false := by simpa [Lit.sameKey] using h a (by simp)
    rw [List.map_cons, List.find?_cons_of_neg (by rw [h0]; simp)]
    exact find_none l (fun b hb => h b (by simp [hb]))
theorem atKey_miss (z : DataW Value) (l : List α) {k : List UInt8} (h : ∀ a ∈ l, kb key a ≠ k) : (DM key val l).atKey (.string k) z = z := by
  unfold DM DataW.atKey
  simp only [find_none key val l h]

theorem has_hit (l : List α) {k : List UInt8} (h : ∃ a ∈ l, kb key a = k) : Maps.has (DM key val l) (.string k) = true := by
  obtain ⟨a, ha, rfl⟩ := h
  unfold DM
  rw [Maps.has_eq, List.any_map, List.any_eq_true]
  exact ⟨a, ha, by simp [Lit.sameKey]⟩
theorem has_miss (l : List α) {k : List UInt8} (h : ∀ a ∈ l, kb key a ≠ k) : Maps.has (DM key val l) (.string k) = false := by
  unfold DM
  rw [Maps.has_eq, List.any_map, List.any_eq_false]
  intro a ha
  simpa [Lit.sameKey] using h a ha
theorem size_DM (l : List α) : Maps.size (DM key val l) = l.length := by unfold DM; rw [Maps.size_eq]; simp
theorem keys_DM (l : List α) : strKeys (DM key val l) = l.map (kb key) := by
  unfold DM strKeys
  simp only [List.map_map]
  rfl

/-- the keys, sorted -/
theorem sorted_keys {l : List α} (ha : Asc key l) {ss : List (List UInt8)} (h : ss.Perm (l.map (kb key))) : ss.mergeSort (fun x y => decide (x ≤ y)) = l.map (kb key) := by
  have trans : ∀ a b c : List UInt8, decide (a ≤ b) = true → decide (b ≤ c) = true → decide (a ≤ c) = true := fun a b c h1 h2 => by
    simp only [decide_eq_true_eq] at *; exact List.le_trans h1 h2
  have total : ∀ a b : List UInt8, (decide (a ≤ b) || decide (b ≤ a)) = true := fun a b => by
    simp only [Bool.or_eq_true, decide_eq_true_eq]; exact List.le_total a b
  have h1 : (ss.mergeSort (fun x y => decide (x ≤ y))).Pairwise (fun a b => decide (a ≤ b) = true) := List.pairwise_mergeSort trans total ss
  have h2 : (l.map (kb key)).Pairwise (fun a b => decide (a ≤ b) = true) := by
    rw [List.pairwise_map]
    exact ha.imp (fun {a b} hab => by simp only [decide_eq_true_eq]; exact List.le_of_lt hab)
  refine List.Perm.eq_of_pairwise ?_ h1 h2 ((List.mergeSort_perm ss _).trans h)
  intro a b _ _ hab hba
  simp only [decide_eq_true_eq] at hab hba
  exact List.le_antisymm hab hba
end
end Go.Proofs.YtnchgeiinkaefaaGreatDoor.MapM
end

section
/-
  A loop over a function whose rounds are told something of what is yielded (of memory, too): out of the model's laws on a loop's record.
-/
namespace Go.Proofs.YtnchgeiinkaefaaGreatDoor.RangeP
open Go.RowKit
set_option linter.unusedVariables false

variable {F : Fence} {n : Nat} {P : Program}

/-- how a round may end -/
def endsP (B : Nat) (Kp : World → World → Prop) (I Jx : Nat → World → Prop) (k : Nat) (W : World) : Exit → Act → World → Prop
  | .normal, _, W' => KeepsFrom B W W' ∧ Kp W W' ∧ I k W'
  | .ret, _, W' => KeepsFrom B W W' ∧ Jx k W'
  | _, _, _ => False

/-- the iterator's contract: round k is told Pr of what is yielded -/
def SeqP (F : Fence) (n : Nat) (P : Program) (g : Nat) (lb : Array Value) (Pr : Nat → Array Value → World → Prop) (Kp : World → World → Prop) (Sf : Nat → Prop) (w : World) : Prop :=
  ∀ (l : Nat) (J Jy : Nat → World → Prop) (W : World), Below w.heap.size w W → AbidesFrom W.heap.size J → AbidesFrom W.heap.size Jy →
    (∀ k args W1, J k W1 → Pr k args W1 → YieldAt F (n - 1) P l args W1 fun e W' => (e = .returned (.bool true) ∧ J (k + 1) W' ∧ Kp W1 W') ∨ (e = .returned (.bool false) ∧ Jy (k + 1) W')) →
    J 0 W →
    CallsIn F n P g (#[.func (.yield l) #[] #[]] ++ lb) W fun e W' => (∃ v, e = .returned v) ∧ ((∃ k, Sf k ∧ J k W') ∨ (∃ k, Jy k W'))

theorem rangeP {g : Operand} {ps : Array Tmp} {assign body : Code} {Q : Exit → Act → World → Prop} {a : Act} {w : World} (hro : F.round = none) (h1 : 1 ≤ n) {gf : Nat} {lb : Array Value} (hg : a.eval g = .func (.func gf) #[] lb) (hFg : F.fn gf)
    (eg : ∀ args w, (callFunc gf args).run P w = .ok (.enter gf args) w) {Pr : Nat → Array Value → World → Prop} {Kp : World → World → Prop} {Sf : Nat → Prop} (hseq : SeqP F (n - 1) P gf lb Pr Kp Sf w)
    (hKt : ∀ {A B C : World}, Kp A B → Kp B C → Kp A C) (hKb : ∀ (W : World) (l : Nat) (o o' : Obj), w.heap.size ≤ l → W.heap[l]? = some o → o.isCells = false → o.isWalk = false → Kp W (W.putObj l o'))
    (hps : ∀ k args W, Pr k args W → args.size = ps.size) (I Jx : Nat → World → Prop) (hI : OwnFrom w.heap.size I) (hJ : OwnFrom w.heap.size Jx) (hPr : ∀ args, OwnFrom w.heap.size fun k W => Pr k args W) (h0 : I 0 w) (As : Array Value → Act)
    (hassign : ∀ (l : Nat) (args : Array Value) (W : World) (K : Act → World → Prop), args.size = ps.size → K (As args) W → assign.wpIn (F.inRound l) (n - 1 - 1) P (Exit.then K fun _ _ _ => False) { tmps := (ps.zip args).foldl (fun t (p, v) => t.setIfInBounds p v) a.tmps, defers := [] } W)
    (hbody : ∀ (l k : Nat) (args : Array Value) (W : World), w.heap.size ≤ l → I k W → Pr k args W → body.wpIn (F.inRound l) (n - 1 - 1) P (endsP w.heap.size Kp I Jx (k + 1) W) (As args) W)
    (hdone : ∀ (D k : Nat) (W : World), w.heap.size ≤ D → Sf k → I k W → W.heap[D]? = some (.deferred (some [])) → Q .normal { a with defers := { target := .collected D, args := #[] } :: a.defers } W)
    (hstop : ∀ (D k : Nat) (W : World), w.heap.size ≤ D → Jx k W → W.heap[D]? = some (.deferred (some [])) → Code.ret.wpIn F n P Q { a with defers := { target := .collected D, args := #[] } :: a.defers } W) :
    (Code.rangeFunc g ps assign body).wpIn F n P Q a w := by
  refine wpIn_rangeFunc fun fn hfn => ?_
  rw [hro]
  let R (st : LoopState) (pe : Option Code) : Obj := .loop { state := st, pending := pe, fn := fn, tmps := a.tmps, params := ps, assign := assign, body := body, defers := w.heap.size }
  let W1 := (w.alloc (.deferred (some []))).alloc (R .ready none)
  have z1 : W1.heap.size = w.heap.size + 2 := by simp [W1]
  have L1 : W1.heap[w.heap.size + 1]? = some (R .ready none) := by
    have := World.alloc_heap_new (w.alloc (.deferred (some []))) (R .ready none); rwa [World.size_alloc] at this
  have D1 : W1.heap[w.heap.size]? = some (.deferred (some [])) := (Below.heap_alloc _ _ _ (by simp)).trans (World.alloc_heap_new w _)
  have B1 : Below w.heap.size w W1 := ((Below.refl _ w).alloc (Nat.le_refl _) _).alloc (by simp) _
  refine ⟨w.heap.size + 1, [{ target := .collected w.heap.size, args := #[] }], W1, { target := .fn (.func gf) lb, args := #[.func (.yield (w.heap.size + 1)) #[] #[]] }, W1, gf, #[.func (.yield (w.heap.size + 1)) #[] #[]] ++ lb, W1, run_enterLoop_outer _ _ _ _ _, ?_, ?_, ?_, fun _ => h1, ?_⟩
  · simp only [resolve, hg]; simp [go_sem]
  · intro f' hf'; simp [Target.leads] at hf'; subst hf'; exact hFg
  · simp [invoke, go_sem, eg]
  -- what the iterator carries along: the caller's word, and the two blocks of the loop
  let Bk (st : LoopState) (pe : Option Code) (W : World) : Prop := W.heap[w.heap.size + 1]? = some (R st pe) ∧ W.heap[w.heap.size]? = some (.deferred (some []))
  have hbk : ∀ st pe W W' row, Bk st pe W → W.grownBy W' row → (∀ r, row = some r → W1.heap.size ≤ r ∧ ∃ o : Obj, W.heap[r]? = some o ∧ o.isWalk = true) → Bk st pe W' := fun st pe W W' row h hg' hr =>
    ⟨(grownBy_keeps hg' (fun r e => (hr r e).2) h.1 rfl).trans h.1, (grownBy_keeps hg' (fun r e => (hr r e).2) h.2 rfl).trans h.2⟩
  have hrow : ∀ (W : World) (row : Option Nat), (∀ r, row = some r → W1.heap.size ≤ r ∧ ∃ o : Obj, W.heap[r]? = some o ∧ o.isWalk = true) → ∀ r, row = some r → w.heap.size ≤ r ∧ ∃ o : Obj, W.heap[r]? = some o ∧ o.isCells = false := fun W row hr r e => by
    obtain ⟨h2, o, ho, hw⟩ := hr r e
    exact ⟨by omega, o, ho, Obj.not_cells_of_walk hw⟩
  refine (hseq (w.heap.size + 1) (fun k W => I k W ∧ Bk .ready none W) (fun k W => Jx k W ∧ Bk .done (some .ret) W) W1 B1
    (fun k W W' row h hg' hr => ⟨hI k W W' row h.1 hg' (hrow W row hr), hbk _ _ W W' row h.2 hg' hr⟩)
    (fun k W W' row h hg' hr => ⟨hJ k W W' row h.1 hg' (hrow W row hr), hbk _ _ W W' row h.2 hg' hr⟩) ?_ ⟨hI.alloc _ (hI.alloc _ h0), L1, D1⟩).mono ?_
  · rintro k args W ⟨hi, hl, hk⟩ hp
    have hsz := hps k args W hp
    have hlt : w.heap.size + 1 < W.heap.size := (Array.getElem?_eq_some_iff.1 hl).1
    refine ⟨fn, _, assign, body, run_yield (P := P) (args := args) hl hsz, roundIn_of_wpIn hfn (hassign _ args W _ hsz ?_)⟩
    have hl2 : (W.putObj (w.heap.size + 1) (R .busy none)).heap[w.heap.size + 1]? = some (R .busy none) := World.putObj_heap_same hlt
    have hk2 : (W.putObj (w.heap.size + 1) (R .busy none)).heap[w.heap.size]? = some (.deferred (some [])) := (World.putObj_heap_other (by omega)).trans hk
    have hw2 : Kp W (W.putObj (w.heap.size + 1) (R .busy none)) := hKb _ _ _ _ (by omega) hl rfl rfl
    refine ⟨_, run_beginRound hl rfl, ?_⟩
    refine wpIn_mono (hbody _ k args _ (by omega) (hI.putObj _ hi (by omega) hl rfl) ((hPr args).putObj _ hp (by omega) hl rfl)) ?_
    have fin : ∀ (jump : Option Code) (W3 : World), KeepsFrom w.heap.size (W.putObj (w.heap.size + 1) (R .busy none)) W3 →
        (Instr.endRound (w.heap.size + 1) jump).run P W3 = .ok (.bool jump.isNone) (W3.putObj (w.heap.size + 1) (R (if jump.isNone then .ready else .done) jump)) ∧ W3.heap[w.heap.size + 1]? = some (R .busy none) ∧
        Bk (if jump.isNone then .ready else .done) jump (W3.putObj (w.heap.size + 1) (R (if jump.isNone then .ready else .done) jump)) := fun jump W3 h3 => by
      have hl3 := h3.same _ _ (by omega) hl2 rfl
      exact ⟨run_endRound (P := P) jump hl3, hl3, World.putObj_heap_same (Array.getElem?_eq_some_iff.1 hl3).1, (World.putObj_heap_other (by omega)).trans (h3.same _ _ (Nat.le_refl _) hk2 rfl)⟩
    rintro e a3 W3 he
    cases e with
    | normal =>
      obtain ⟨h3, hk3, hi3⟩ := he
      obtain ⟨hr, hl3, hb4⟩ := fin none W3 h3
      exact ⟨_, _, hr, .inl ⟨rfl, ⟨hI.putObj _ hi3 (by omega) hl3 rfl, hb4⟩, hKt (hKt hw2 hk3) (hKb _ _ _ _ (by omega) hl3 rfl rfl)⟩⟩
    | ret =>
      obtain ⟨h3, hi3⟩ := he
      obtain ⟨hr, hl3, hb4⟩ := fin (some .ret) W3 h3
      exact ⟨_, _, hr, .inr ⟨rfl, hJ.putObj _ hi3 (by omega) hl3 rfl, hb4⟩⟩
    | exit id => exact he.elim
    | goto t => exact he.elim
    | panic ch => exact he.elim
    | outgrown => exact he.elim
  · rintro e W2 ⟨⟨v, rfl⟩, ⟨k, hS, hi, hl, hk⟩ | ⟨k, hi, hl, hk⟩⟩
    · exact ⟨none, _, run_endLoop (P := P) hl (by simp), hdone _ k _ (Nat.le_refl _) hS (hI.putObj _ hi (by omega) hl rfl) ((World.putObj_heap_other (by omega)).trans hk)⟩
    · exact ⟨some .ret, _, run_endLoop (P := P) hl (by simp), hstop _ k _ (Nat.le_refl _) (hJ.putObj _ hi (by omega) hl rfl) ((World.putObj_heap_other (by omega)).trans hk)⟩
end Go.Proofs.YtnchgeiinkaefaaGreatDoor.RangeP
end

section
/-
  Boxes: blocks of a few cells that a call has laid for itself (arguments, results, variables).
-/
namespace Go.Proofs.YtnchgeiinkaefaaGreatDoor.Boxes
set_option linter.unusedVariables false
open Go.RowKit

theorem hide {p : Prop} (h : p) : Hid p := h
theorem unhide {p : Prop} (h : Hid p) : p := h

/-- block b holds these cells, none of them frozen -/
def At (W : World) (b : Nat) (cs : List Value) : Prop := ∀ i v, cs[i]? = some v → W.cell? ⟨b, i, none⟩ = some v ∧ W.frozen? ⟨b, i, none⟩ = false
theorem At.kept {W W' : World} {b : Nat} {cs : List Value} (h : At W b cs) (hb : W'.heap[b]? = W.heap[b]?) : At W' b cs :=
  fun i v hi => ⟨(World.cell?_of_block (w := W) hb).trans (h i v hi).1, (World.frozen?_of_block (w := W) hb).trans (h i v hi).2⟩
theorem At.below {W W' : World} {b : Nat} {cs : List Value} (h : At W b cs) (hb : Below W.heap.size W W') (hl : b < W.heap.size) : At W' b cs := h.kept (hb.block b hl)
theorem At.new (w : World) (cs : Array Value) (t : TypeId) : At (w.alloc (.cells cs t)) w.heap.size cs.toList := by
  have e1 := (MapKept.heap_alloc w (.cells cs t)).1
  intro i v hi
  simp only [World.cell?, World.frozen?]
  rw [e1]
  have hi' : cs[i]? = some v := by simpa using hi
  simp [hi']
theorem At.set {W : World} {b : Nat} {cs : List Value} (h : At W b cs) (k : Nat) (u : Value) : At (W.setCell ⟨b, k, none⟩ u) b (cs.set k u) := by
  intro i v hi
  by_cases e : i = k
  · subst e
    by_cases hl : i < cs.length
    · rw [List.getElem?_set_self hl] at hi
      obtain rfl := Option.some.inj hi
      have := h i _ (List.getElem?_eq_getElem hl)
      exact ⟨World.cell?_setCell_same _ _ _ this.1, by simpa [World.frozen?_setCell] using this.2⟩
    · have e2 : (cs.set i u)[i]? = none := by simp; omega
      rw [e2] at hi; cases hi
  · rw [List.getElem?_set_ne (fun h => e h.symm)] at hi
    obtain ⟨h1, h2⟩ := h i v hi
    exact ⟨by rw [World.cell?_setCell_other _ _ _ _ (by intro e'; simp only [Addr.mk.injEq, and_true, true_and] at e'; omega)]; exact h1, by simpa [World.frozen?_setCell] using h2⟩
theorem At.other {W : World} {b g k : Nat} {cs : List Value} (h : At W b cs) (u : Value) (hg : g ≠ b) : At (W.setCell ⟨g, k, none⟩ u) b cs :=
  h.kept (Below.heap_setCell W ⟨g, k, none⟩ u b (by simp; omega))
theorem At.lt {W : World} {b : Nat} {v : Value} {cs : List Value} (h : At W b (v :: cs)) : b < W.heap.size := by
  refine Nat.lt_of_not_le fun hn => ?_
  have h2 : W.heap[b]? = none := by simp; omega
  have := (h 0 v rfl).1
  simp [World.cell?, h2] at this

theorem box1 {w w1 : World} {A : Array Value} {t : TypeId} (hb : Below (w.alloc (.cells A t)).heap.size (w.alloc (.cells A t)) w1) :
    At w1 w.heap.size A.toList ∧ Below w.heap.size w w1 ∧ w.heap.size + 1 ≤ w1.heap.size :=
  ⟨(At.new w A t).kept (hb.block _ (by simp)), ((Below.refl _ w).alloc (Nat.le_refl _) _).trans (hb.mono (by simp)), by have := hb.size; simpa using this⟩
theorem box2 {w w1 : World} {A B : Array Value} {t s : TypeId} (hb : Below ((w.alloc (.cells A t)).alloc (.cells B s)).heap.size ((w.alloc (.cells A t)).alloc (.cells B s)) w1) :
    At w1 w.heap.size A.toList ∧ At w1 (w.heap.size + 1) B.toList ∧ Below w.heap.size w w1 ∧ w.heap.size + 2 ≤ w1.heap.size := by
  obtain ⟨h2, h3, h4⟩ := box1 hb
  obtain ⟨h1, h5, h6⟩ := box1 h3
  rw [World.size_alloc] at h2 h4
  exact ⟨h1, h2, h5, h4⟩
end Go.Proofs.YtnchgeiinkaefaaGreatDoor.Boxes
end

section
/-
  errors.As at a code of bills: what the model says of reflection there.
-/
namespace Go.Proofs.YtnchgeiinkaefaaGreatDoor.ErrA
set_option linter.unusedVariables false
open Go.RowKit

theorem ext {f : FuncId} {e : Array Value → Sem Value} {args : Array Value} {w w' : World} {v : Value} (fn : Func) (hf : Tryz.prog.funcs[f]? = some fn) (hname : (fn.name == "runtime.NumGoroutine") = false)
    (hb : fn.body.isNone = true) (hn : Extern.findNext fn = none) (he : Extern.find fn = some e) (h : (e args).run Tryz.prog w = .ok v w') : Sem.run Tryz.prog (callFunc f args) w = .ok (.value v) w' := by
  have := run_callFunc_extern (P := Tryz.prog) hf hname hb hn he args w
  rw [this, h]; rfl
/-- a type's handle -/
abbrev hdl (t : TypeId) : Value := .pointer (some ⟨10, t, none⟩)
abbrev rty (t : TypeId) : Value := .iface 170 (.agg #[hdl t])

theorem vofP (p : Addr) (w : World) : Sem.run Tryz.prog (callFunc 73 #[.iface 96 (.pointer (some p))]) w = .ok (.value (.agg #[hdl 96, .pointer (some ⟨w.heap.size, 0, none⟩), .int .u64 150])) (w.alloc (.cells #[.pointer (some p)] 96)) := by
  refine ext (e := fun args => Extern.ReflectliteValue.unpack (args.getD 0 (.tuple #[]))) Tryz.f73 Tryz.func73 (by kernel_rfl) (by kernel_rfl) (by kernel_rfl) (by kernel_rfl) ?_
  kernel_rfl

theorem vofC (c : Int) (w : World) : Sem.run Tryz.prog (callFunc 73 #[.iface 84 (.int .i64 c)]) w = .ok (.value (.agg #[hdl 84, .pointer (some ⟨w.heap.size, 0, none⟩), .int .u64 130])) (w.alloc (.cells #[.int .i64 c] 84)) := by
  refine ext (e := fun args => Extern.ReflectliteValue.unpack (args.getD 0 (.tuple #[]))) Tryz.f73 Tryz.func73 (by kernel_rfl) (by kernel_rfl) (by kernel_rfl) (by kernel_rfl) ?_
  kernel_rfl

theorem vtyp (a : Addr) (w : World) : Sem.run Tryz.prog (callFunc 74 #[.agg #[hdl 96, .pointer (some a), .int .u64 150]]) w = .ok (.value (rty 96)) (w) := by
  refine ext (e := Extern.ReflectliteValue.methodAny (Extern.ReflectliteValue.valueError "reflectlite.Value.Type" 0) fun t _ _ _ => Extern.ReflectliteType.toType t) Tryz.f74 Tryz.func74 (by kernel_rfl) (by kernel_rfl) (by kernel_rfl) (by kernel_rfl) ?_
  kernel_rfl

theorem kndP (w : World) : Sem.run Tryz.prog (callFunc 243 #[hdl 96]) w = .ok (.value (.int .u8 22)) (w) := by
  refine ext (e := Extern.ReflectliteType.abiMethod fun t => do pure (.int .u8 (← Extern.Rtype.kind t))) Tryz.f243 Tryz.func243 (by kernel_rfl) (by kernel_rfl) (by kernel_rfl) (by kernel_rfl) ?_
  kernel_rfl

theorem kndC (w : World) : Sem.run Tryz.prog (callFunc 243 #[hdl 84]) w = .ok (.value (.int .u8 2)) (w) := by
  refine ext (e := Extern.ReflectliteType.abiMethod fun t => do pure (.int .u8 (← Extern.Rtype.kind t))) Tryz.f243 Tryz.func243 (by kernel_rfl) (by kernel_rfl) (by kernel_rfl) (by kernel_rfl) ?_
  kernel_rfl

theorem elmP (w : World) : Sem.run Tryz.prog (callFunc 253 #[.agg #[hdl 96]]) w = .ok (.value (rty 84)) (w) := by
  refine ext (e := Extern.ReflectliteType.method Extern.ReflectliteType.elem) Tryz.f253 Tryz.func253 (by kernel_rfl) (by kernel_rfl) (by kernel_rfl) (by kernel_rfl) ?_
  kernel_rfl

theorem impC (w : World) : Sem.run Tryz.prog (callFunc 254 #[.agg #[hdl 84], rty 62]) w = .ok (.value (.bool true)) (w) := by
  refine ext (e := Extern.ReflectliteType.relation "Implements" Extern.ReflectliteType.implements_) Tryz.f254 Tryz.func254 (by kernel_rfl) (by kernel_rfl) (by kernel_rfl) (by kernel_rfl) ?_
  kernel_rfl

theorem tofC (c : Int) (w : World) : Sem.run Tryz.prog (callFunc 107 #[.iface 84 (.int .i64 c)]) w = .ok (.value (rty 84)) (w) := by
  refine ext (e := Extern.ReflectliteType.typeOf) Tryz.f107 Tryz.func107 (by kernel_rfl) (by kernel_rfl) (by kernel_rfl) (by kernel_rfl) ?_
  kernel_rfl

theorem asgC (w : World) : Sem.run Tryz.prog (callFunc 251 #[.agg #[hdl 84], rty 84]) w = .ok (.value (.bool true)) (w) := by
  refine ext (e := Extern.ReflectliteType.relation "AssignableTo" Extern.ReflectliteType.assignableTo) Tryz.f251 Tryz.func251 (by kernel_rfl) (by kernel_rfl) (by kernel_rfl) (by kernel_rfl) ?_
  kernel_rfl

/-! ### what reads or writes memory -/
theorem ptsP (a : Addr) (w : World) : (Extern.ReflectliteValue.parts (.agg #[hdl 96, .pointer (some a), .int .u64 150])).run Tryz.prog w = .ok (some (96, a, 150)) w := by kernel_rfl

theorem ptsD (a : Addr) (w : World) : (Extern.ReflectliteValue.parts (.agg #[hdl 84, .pointer (some a), .int .u64 386])).run Tryz.prog w = .ok (some (84, a, 386)) w := by kernel_rfl

theorem ptsC (a : Addr) (w : World) : (Extern.ReflectliteValue.parts (.agg #[hdl 84, .pointer (some a), .int .u64 130])).run Tryz.prog w = .ok (some (84, a, 130)) w := by kernel_rfl

theorem elemOfP (w : World) : (Extern.Rtype.elem? 96).run Tryz.prog w = .ok (some 84) w := by kernel_rfl

theorem mkC (p : Addr) (w : World) : (Extern.ReflectliteValue.mk 84 p Extern.ReflectliteValue.flagAddr).run Tryz.prog w = .ok (.agg #[hdl 84, .pointer (some p), .int .u64 386]) w := by kernel_rfl

theorem dirC (w : World) : (Extern.Rtype.directlyAssignable 84 84).run Tryz.prog w = .ok true w := by kernel_rfl

theorem nilP (a p : Addr) (w : World) (h : w.cell? a = some (.pointer (some p))) : Sem.run Tryz.prog (callFunc 75 #[.agg #[hdl 96, .pointer (some a), .int .u64 150]]) w = .ok (.value (.bool false)) w := by
  refine ext (e := Extern.ReflectliteValue.method (Extern.ReflectliteValue.valueError "reflectlite.Value.IsNil" 0) Extern.ReflectliteValue.isNil) Tryz.f75 Tryz.func75 (by kernel_rfl) (by kernel_rfl) (by kernel_rfl) (by kernel_rfl) ?_
  change Sem.run Tryz.prog (Extern.ReflectliteValue.parts (.agg #[hdl 96, .pointer (some a), .int .u64 150]) >>= _) w = _
  simp only [Sem.run_bind, ptsP, Result.andThen]
  simp [Extern.ReflectliteValue.isNil, loadVar, isAgg, underlying, Tryz.underlying96, h, Result.andThen]

theorem elemV (a p : Addr) (w : World) (h : w.cell? a = some (.pointer (some p))) : Sem.run Tryz.prog (callFunc 108 #[.agg #[hdl 96, .pointer (some a), .int .u64 150]]) w = .ok (.value (.agg #[hdl 84, .pointer (some p), .int .u64 386])) w := by
  refine ext (e := Extern.ReflectliteValue.method (Extern.ReflectliteValue.valueError "reflectlite.Value.Elem" 0) Extern.ReflectliteValue.elem) Tryz.f108 Tryz.func108 (by kernel_rfl) (by kernel_rfl) (by kernel_rfl) (by kernel_rfl) ?_
  change Sem.run Tryz.prog (Extern.ReflectliteValue.parts (.agg #[hdl 96, .pointer (some a), .int .u64 150]) >>= _) w = _
  simp only [Sem.run_bind, ptsP, Result.andThen]
  simp [Extern.ReflectliteValue.elem, loadVar, isAgg, underlying, Tryz.underlying96, h, Result.andThen, elemOfP, mkC]

theorem setC (t b : Addr) (c : Int) (old : Value) (w : World) (hb : w.cell? b = some (.int .i64 c)) (ht : w.cell? t = some old) (hf : w.frozen? t = false) : Sem.run Tryz.prog (callFunc 109 #[.agg #[hdl 84, .pointer (some t), .int .u64 386], .agg #[hdl 84, .pointer (some b), .int .u64 130]]) w = .ok (.value (.tuple #[])) (w.setCell t (.int .i64 c)) := by
  refine ext (e := Extern.ReflectliteValue.set) Tryz.f109 Tryz.func109 (by kernel_rfl) (by kernel_rfl) (by kernel_rfl) (by kernel_rfl) ?_
  change Sem.run Tryz.prog (Extern.ReflectliteValue.parts (.agg #[hdl 84, .pointer (some t), .int .u64 386]) >>= fun p => Extern.ReflectliteValue.parts (.agg #[hdl 84, .pointer (some b), .int .u64 130]) >>= _) w = _
  simp only [Sem.run_bind, ptsD, ptsC, Result.andThen]
  simp [Extern.ReflectliteValue.flagAddr, loadVar, isAgg, underlying, Tryz.underlying84, hb, Result.andThen, dirC, storeVar, Value.cells, storeCells, Addr.add]
  rw [run_store Tryz.prog w t _ _ (by rfl)]
  simp [ht, hf]

theorem mKnd (h : Value) (w : World) : (Go.method 453 170 (.agg #[h]) "Kind").run Tryz.prog w = .ok (243, h) w := by kernel_rfl

theorem mElm (h : Value) (w : World) : (Go.method 453 170 (.agg #[h]) "Elem").run Tryz.prog w = .ok (253, .agg #[h]) w := by kernel_rfl

theorem mImp (h : Value) (w : World) : (Go.method 453 170 (.agg #[h]) "Implements").run Tryz.prog w = .ok (254, .agg #[h]) w := by kernel_rfl

theorem mAsg (h : Value) (w : World) : (Go.method 453 170 (.agg #[h]) "AssignableTo").run Tryz.prog w = .ok (251, .agg #[h]) w := by kernel_rfl
end Go.Proofs.YtnchgeiinkaefaaGreatDoor.ErrA
end

section
/-
  A region that draws its order, walked once for all worlds of a class that the prover names (a guard in it may be false, a call in it may lay blocks).
-/
namespace Go.Proofs.YtnchgeiinkaefaaGreatDoor.RegIn
open Go

/-- a world of the class S -/
structure In (S : World → Prop) where
  x : World
  h : S x

theorem wp_region_in {P : Program} {id : Nat} {Q : Exit → Act → World → Prop} {a : Act} {w : World} {l : List Oper} (S : World → Prop) (hm : P.follows .mixedOrders = true) (hB : Region.lexB .any l.toArray = true) (hS : S w.drew)
    (h : Nonempty (In S) → wpQuiet P l.toArray (fun w' => ∃ g : In S, w' = g.x) (fun a' => ∀ w', (∃ g : In S, w' = g.x) → Q .normal a' w') l a) : (Code.region id l.toArray true).wp P Q a w :=
  wp_region_quiet (C := fun w' => ∃ g : In S, w' = g.x) hm hB ⟨⟨_, hS⟩, rfl⟩ (by simpa using h ⟨⟨_, hS⟩⟩)

/-- a callee's contract, in a world of the class -/
theorem call_in {P : Program} {f : FuncId} {args : Array Value} {S : World → Prop} {v : Value} (g : In S) (h : Calls P f args g.x fun e w' => e = .returned v ∧ S w') : Calls P f args g.x fun e w'' => e = .returned v ∧ ∃ g' : In S, w'' = g'.x :=
  h.mono fun _ w' ⟨he, hs⟩ => ⟨he, ⟨w', hs⟩, rfl⟩
end Go.Proofs.YtnchgeiinkaefaaGreatDoor.RegIn
end

section
/-
  Texts that mark, and what may grow; no helper of the laws in it.
-/
namespace Go.Proofs.YtnchgeiinkaefaaGreatDoor.Evs
set_option linter.unusedVariables false
open Go.RowKit RegIn

/-- the digits of a number, none of nought -/
def digs : Nat → List UInt8
  | 0 => []
  | k + 1 => digs ((k + 1) / 10) ++ [UInt8.ofNat (48 + (k + 1) % 10)]
termination_by k => k
decreasing_by omega
theorem digs_pos {k : Nat} (h : 0 < k) : digs k = digs (k / 10) ++ [UInt8.ofNat (48 + k % 10)] := by
  cases k with
  | zero => omega
  | succ k => rw [digs]
theorem digs_zero : digs 0 = [] := by rw [digs]
/-- the text that marks -/
def mt (k : Nat) : ByteArray := ⟨(109 :: digs k).toArray⟩

theorem grow0 (w : World) (r : Option Nat) : w.grownBy w r := World.grownBy.refl _ _
theorem growB {a b : World} (h : Below a.heap.size a b) (r : Option Nat) : a.grownBy b r := ⟨h.os, h.tape, h.output, h.size, fun j hj _ => h.block j hj⟩
theorem growT {a b c : World} {r : Option Nat} (h : a.grownBy b r) (k : b.grownBy c r) : a.grownBy c r :=
  ⟨k.os.trans h.os, k.tape.trans h.tape, k.output.trans h.output, Nat.le_trans h.size k.size, fun j hj hne => (k.block j (Nat.lt_of_lt_of_le hj h.size) hne).trans (h.block j hj hne)⟩
theorem growS (w : World) (b o : Nat) (u : Value) : w.grownBy (w.setCell ⟨b, o, none⟩ u) (some b) := by
  refine ⟨rfl, rfl, rfl, ?_, ?_⟩
  · simp
  · intro j hj hne
    exact Below.heap_setCell w ⟨b, o, none⟩ u j (fun e => hne (by rw [e]))

end Go.Proofs.YtnchgeiinkaefaaGreatDoor.Evs
end
