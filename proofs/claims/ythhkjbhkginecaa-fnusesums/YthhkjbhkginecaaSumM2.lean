/-
  What the sums of events come to together, and meter by meter: the mathematics of FnUseSums.
-/
import Derived.Test.YthhkjbhkginecaaSumM
import Derived.Test.YthhkjbhkginecaaFixM
namespace Go.Proofs.Ythhkjbhkginecaa.Sums
set_option linter.unusedVariables false
open Go.RowKit Go.Maps MapM
open Uses (U U0 ofV)
open Evs (E E0 hide unhide)

/-- all sums together, each meter with its weight -/
def tot (g : ByteArray → Int) : List U → Int
  | [] => 0
  | u :: l => g u.1 * u.2 + tot g l
def totE (g : ByteArray → Int) : List E → Int
  | [] => 0
  | e :: l => g e.2.1 * e.2.2 + totE g l
theorem tot_app (g : ByteArray → Int) : ∀ a b : List U, tot g (a ++ b) = tot g a + tot g b
  | [], b => by simp [tot]
  | u :: a, b => by rw [List.cons_append, tot, tot, tot_app g a b]; omega
theorem totE_app (g : ByteArray → Int) : ∀ a b : List E, totE g (a ++ b) = totE g a + totE g b
  | [], b => by simp [totE]
  | u :: a, b => by rw [List.cons_append, totE, totE, totE_app g a b]; omega
theorem tot_split (g : ByteArray → Int) (l : List U) (p : Nat) : tot g (l.take p) + tot g (l.drop p) = tot g l := by
  rw [← tot_app, List.take_append_drop]
theorem totE_split (g : ByteArray → Int) (l : List E) (p : Nat) : totE g (l.take p) + totE g (l.drop p) = totE g l := by
  rw [← totE_app, List.take_append_drop]
theorem tot_set (g : ByteArray → Int) (l : List U) (p : Nat) (hp : p < l.length) (x : U) : tot g (l.set p x) = tot g l - g l[p].1 * l[p].2 + g x.1 * x.2 := by
  have h1 : l.set p x = l.take p ++ x :: l.drop (p + 1) := List.set_eq_take_append_cons_drop.trans (if_pos hp)
  have h2 : tot g l = tot g (l.take p) + (g l[p].1 * l[p].2 + tot g (l.drop (p + 1))) := by
    rw [← tot_split g l p, List.drop_eq_getElem_cons hp]; rfl
  rw [h1, tot_app, h2]
  show _ + (g x.1 * x.2 + _) = _
  omega
theorem totE_set (g : ByteArray → Int) (l : List E) (p : Nat) (hp : p < l.length) (x : E) : totE g (l.set p x) = totE g l - g l[p].2.1 * l[p].2.2 + g x.2.1 * x.2.2 := by
  have h1 : l.set p x = l.take p ++ x :: l.drop (p + 1) := List.set_eq_take_append_cons_drop.trans (if_pos hp)
  have h2 : totE g l = totE g (l.take p) + (g l[p].2.1 * l[p].2.2 + totE g (l.drop (p + 1))) := by
    rw [← totE_split g l p, List.drop_eq_getElem_cons hp]; rfl
  rw [h1, totE_app, h2]
  show _ + (g x.2.1 * x.2.2 + _) = _
  omega
theorem tot_add (g : ByteArray → Int) {l : List U} {m : ByteArray} {q : Int} (ha : Asc keyU l) : tot g (addU l m q) = tot g l + g m * q := by
  cases h : hasU l m with
  | true =>
    obtain ⟨hp, he⟩ := has_yes ha h
    rw [add_yes h, tot_set g l _ hp, lk_yes h]
    have hg : l.getD (posU l m) U0 = l[posU l m] := by simp [List.getD, hp]
    rw [hg, he]
    simp only
    rw [Int.mul_add]
    omega
  | false =>
    rw [add_no h, tot_app, ← tot_split g l (posU l m)]
    show _ + (g m * q + _) = _
    omega
theorem tot_sums (g : ByteArray → Int) (l : List E) : ∀ k, k ≤ l.length → tot g (sums (l.take k)) = totE g (l.take k) := by
  intro k
  induction k with
  | zero => intro _; simp [sums, sumsFrom, tot, totE]
  | succ k ih =>
    intro hk
    have hk' : k < l.length := by omega
    rw [sums_step hk', tot_add g (sums_asc l k (by omega)), ih (by omega)]
    have : l.take (k + 1) = l.take k ++ [l.getD k E0] := by rw [List.take_add_one, List.getElem?_eq_getElem hk']; simp [List.getD, hk']
    rw [this, totE_app]
    simp [totE]
/-- a meter's own weight -/
def ind (m : ByteArray) : ByteArray → Int := fun x => if x = m then 1 else 0
theorem tot_none {m : ByteArray} : ∀ (l : List U), (∀ u ∈ l, u.1 ≠ m) → tot (ind m) l = 0
  | [], _ => rfl
  | u :: l, h => by
    rw [tot, tot_none l (fun v hv => h v (by simp [hv]))]
    unfold ind
    rw [if_neg (h u (by simp))]
    omega
theorem of_tot {m : ByteArray} : ∀ (l : List U), Asc keyU l → ofV m l = tot (ind m) l
  | [], _ => rfl
  | u :: l, ha => by
    have hp := List.pairwise_cons.1 ha
    by_cases h : u.1 = m
    · have hn : ∀ v ∈ l, v.1 ≠ m := fun v hv e => by
        have := hp.1 v hv
        simp only [kb, keyU] at this
        rw [h, e] at this
        exact List.lt_irrefl _ this
      rw [tot, tot_none l hn]
      unfold ofV ind
      rw [if_pos h, if_pos h]
      omega
    · rw [tot, ← of_tot l hp.2]
      unfold ind
      rw [if_neg h]
      show (if u.1 = m then u.2 else ofV m l) = _
      rw [if_neg h]
      omega
theorem of_sums (m : ByteArray) (l : List E) : ofV m (sums l) = totE (ind m) l := by
  have h1 := sums_asc l l.length (Nat.le_refl _)
  have h2 := tot_sums (ind m) l l.length (Nat.le_refl _)
  rw [List.take_length] at h1 h2
  rw [of_tot _ h1, h2]
/-- a correction turns its meter's sum by as much -/
theorem of_fixed {l : List E} {k : Nat} (hk : k < l.length) {id m : ByteArray} {was q : Int} (h : l[k] = (id, m, was)) : ofV m (sums (l.set k (id, m, q))) - ofV m (sums l) = q - was := by
  rw [of_sums, of_sums, totE_set _ _ _ hk, h]
  simp only [ind, if_true]
  omega

/-- every meter with the same weight -/
def one : ByteArray → Int := fun _ => 1
theorem totE_step {l : List E} {k : Nat} (hk : k < l.length) : totE one (l.take (k + 1)) = totE one (l.take k) + (l.getD k E0).2.2 := by
  have : l.take (k + 1) = l.take k ++ [l.getD k E0] := by rw [List.take_add_one, List.getElem?_eq_getElem hk]; simp [List.getD, hk]
  rw [this, totE_app]
  simp [totE, one]
theorem tot_step {l : List U} {k : Nat} (hk : k < l.length) : tot one (l.take (k + 1)) = tot one (l.take k) + (l.getD k U0).2 := by
  have : l.take (k + 1) = l.take k ++ [l.getD k U0] := by rw [List.take_add_one, List.getElem?_eq_getElem hk]; simp [List.getD, hk]
  rw [this, tot_app]
  simp [tot, one]
theorem totE_bound (l : List E) (hq : ∀ u ∈ l, 0 ≤ u.2.2 ∧ u.2.2 ≤ 1000000000) : ∀ k, k ≤ l.length → 0 ≤ totE one (l.take k) ∧ totE one (l.take k) ≤ (k : Int) * 1000000000 := by
  intro k
  induction k with
  | zero => intro _; simp [totE]
  | succ k ih =>
    intro hk
    have := ih (by omega)
    have hx : 0 ≤ (l.getD k E0).2.2 ∧ (l.getD k E0).2.2 ≤ 1000000000 := hq _ (by simp [List.getD, (by omega : k < l.length)])
    rw [totE_step (by omega)]
    omega
theorem tot_bound (l : List U) (M : Int) (hM : 0 ≤ M) (hq : ∀ u ∈ l, 0 ≤ u.2 ∧ u.2 ≤ M) : ∀ k, k ≤ l.length → 0 ≤ tot one (l.take k) ∧ tot one (l.take k) ≤ (k : Int) * M := by
  intro k
  induction k with
  | zero => intro _; simp [tot]
  | succ k ih =>
    intro hk
    have := ih (by omega)
    have hx : 0 ≤ (l.getD k U0).2 ∧ (l.getD k U0).2 ≤ M := hq _ (by simp [List.getD, (by omega : k < l.length)])
    rw [tot_step (by omega)]
    have e : ((k + 1 : Nat) : Int) * M = (k : Int) * M + M := by rw [Int.natCast_add, Int.add_mul]; omega
    omega
theorem ofV_bound {l : List U} {m : ByteArray} {M : Int} (hM : 0 ≤ M) (hq : ∀ u ∈ l, 0 ≤ u.2 ∧ u.2 ≤ M) : 0 ≤ ofV m l ∧ ofV m l ≤ M := by
  induction l with
  | nil => exact ⟨Int.le_refl _, hM⟩
  | cons u l ih =>
    show 0 ≤ (if u.1 = m then u.2 else ofV m l) ∧ (if u.1 = m then u.2 else ofV m l) ≤ M
    split
    · exact hq u (by simp)
    · exact ih (fun v hv => hq v (by simp [hv]))
theorem sums_asc' (l : List E) : Asc keyU (sums l) := by
  have := sums_asc l l.length (Nat.le_refl _)
  rwa [List.take_length] at this
theorem sums_len' (l : List E) : (sums l).length ≤ l.length := by
  have := sums_len l l.length (Nat.le_refl _)
  rwa [List.take_length] at this
theorem sums_bound' {l : List E} (hok : Evs.okB l = true) : ∀ u ∈ sums l, 0 ≤ u.2 ∧ u.2 ≤ 20000000000 := by
  intro u hu
  have h1 := sums_bound l (okB_qty hok) l.length (Nat.le_refl _)
  rw [List.take_length] at h1
  have h2 := Evs.okB_len hok
  have := h1 u hu
  omega
theorem tot_all (l : List E) : tot one (sums l) = totE one l := by
  have := tot_sums one l l.length (Nat.le_refl _)
  rwa [List.take_length] at this
theorem ltS_asc {l : List U} (ha : Asc keyU l) {i : Nat} (hi : i + 1 < l.length) : Evs.ltS (l.getD i U0).1 (l.getD (i + 1) U0).1 = true := by
  rw [Evs.ltS_iff]
  have := List.pairwise_iff_getElem.1 ha i (i + 1) (by omega) hi (by omega)
  simpa [List.getD, hi, (by omega : i < l.length)] using this
theorem id_once {l : List E} (ha : Asc Evs.keyE l) {i k : Nat} (hi : i < l.length) (hk : k < l.length) (h : l[i].1 = l[k].1) : i = k := by
  have h1 := Evs.pos_hit ha hi
  have h2 := Evs.pos_hit ha hk
  have e : kb Evs.keyE l[i] = kb Evs.keyE l[k] := by unfold kb Evs.keyE; rw [h]
  rw [e, h2] at h1
  exact h1.symm
end Go.Proofs.Ythhkjbhkginecaa.Sums
