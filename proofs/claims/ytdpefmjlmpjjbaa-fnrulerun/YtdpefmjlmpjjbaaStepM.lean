/-
  What so many units cost by steps, as a function on numbers; no program in it.
-/
import Derived.Test.YtdpefmjlmpjjbaaCoinMath
namespace Go.Proofs.Ytdpefmjlmpjjbaa.Tiers
set_option linter.unusedVariables false
open Coin

/-- how many units fall to a step -/
def nOf (x q : Int) : Int := if 0 < x ∧ x < q then x else q
/-- what q units cost by steps, behind what cost out so far -/
def stepF : List (Int × Int) → Int → Int → Option Int
  | [], q, out => some out
  | t :: ts, q, out => if q ≤ 0 then some out else if fitB (nOf t.1 q) t.2 = true ∧ addB out (nOf t.1 q * t.2) = true then stepF ts (q - nOf t.1 q) (out + nOf t.1 q * t.2) else none

theorem nOf_bd {x q : Int} (h : 0 < q) : 0 < nOf x q ∧ nOf x q ≤ q := by unfold nOf; split <;> omega
theorem nOf_small {x q : Int} (h : 0 < x) (h' : x < q) : nOf x q = x := if_pos ⟨h, h'⟩
theorem nOf_all {x q : Int} (h : ¬ (0 < x ∧ x < q)) : nOf x q = q := if_neg h
theorem stepF_end (l : List (Int × Int)) {q out : Int} (h : q ≤ 0) : stepF l q out = some out := by cases l <;> simp [stepF, h]
theorem drop_at {l : List (Int × Int)} {k : Nat} (h : k < l.length) : l.drop k = l.getD k (0, 0) :: l.drop (k + 1) := by
  rw [List.drop_eq_getElem_cons h]; simp [List.getD, h]
theorem stepF_go {l : List (Int × Int)} {k : Nat} {q out : Int} (hk : k < l.length) (hq : 0 < q) (hf : fitB (nOf (l.getD k (0, 0)).1 q) (l.getD k (0, 0)).2 = true) (ha : addB out (nOf (l.getD k (0, 0)).1 q * (l.getD k (0, 0)).2) = true) :
    stepF (l.drop k) q out = stepF (l.drop (k + 1)) (q - nOf (l.getD k (0, 0)).1 q) (out + nOf (l.getD k (0, 0)).1 q * (l.getD k (0, 0)).2) := by
  rw [drop_at hk, stepF, if_neg (by omega), if_pos ⟨hf, ha⟩]
theorem stepF_no {l : List (Int × Int)} {k : Nat} {q out : Int} (hk : k < l.length) (hq : 0 < q) (h : fitB (nOf (l.getD k (0, 0)).1 q) (l.getD k (0, 0)).2 = false ∨ addB out (nOf (l.getD k (0, 0)).1 q * (l.getD k (0, 0)).2) = false) :
    stepF (l.drop k) q out = none := by
  rw [drop_at hk, stepF, if_neg (by omega), if_neg]
  rintro ⟨h1, h2⟩
  rcases h with h | h
  · rw [h1] at h; cases h
  · rw [h2] at h; cases h
theorem stepF_nil {l : List (Int × Int)} {k : Nat} {q out : Int} (h : l.length ≤ k) : stepF (l.drop k) q out = some out := by
  rw [List.drop_eq_nil_of_le h]; rfl
end Go.Proofs.Ytdpefmjlmpjjbaa.Tiers
