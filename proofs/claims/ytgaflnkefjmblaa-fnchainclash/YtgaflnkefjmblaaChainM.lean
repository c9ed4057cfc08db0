/-
  The heads of texts, plainly: hdK, headsF, headF; where two lists with one head have two inputs with one mix (seekL).
-/
import Derived.Test.YtgaflnkefjmblaaMixM
import Derived.Test.YtgaflnkefjmblaaTxR
namespace Go.Proofs.Ytgaflnkefjmblaa.Chain
set_option linter.unusedVariables false
open Go.RowKit
open Txt (S0)

/-- one text more -/
def mixT (h : Int) (s : ByteArray) : Int := mixL h s.data.toList
/-- the head behind k texts -/
def hdK (l : List ByteArray) (k : Nat) : Int := (l.take k).foldl mixT 27182
/-- so many texts count -/
def cnt (l : List ByteArray) : Nat := if l.length ≤ 400 then l.length else 0
/-- ChainHeads -/
def headsF (l : List ByteArray) : List Int := (List.range (cnt l + 1)).map (hdK l)
/-- ChainHead -/
def headF (l : List ByteArray) : Int := hdK l (cnt l)

theorem hdK_zero (l : List ByteArray) : hdK l 0 = 27182 := rfl
theorem hdK_succ {l : List ByteArray} {k : Nat} (h : k < l.length) : hdK l (k + 1) = mixT (hdK l k) (l.getD k S0) := by
  unfold hdK
  have e3 : l.take (k + 1) = l.take k ++ [l.getD k S0] := by rw [List.take_add_one, List.getElem?_eq_getElem h]; simp [List.getD, h]
  rw [e3, List.foldl_append]; rfl
theorem hdK_bd : ∀ (l : List ByteArray) (k : Nat), 0 ≤ hdK l k ∧ hdK l k ≤ 65520 := by
  intro l k
  unfold hdK
  have : ∀ (m : List ByteArray) (h : Int), 0 ≤ h ∧ h ≤ 65520 → 0 ≤ m.foldl mixT h ∧ m.foldl mixT h ≤ 65520 := by
    intro m
    induction m with
    | nil => intro h hh; exact hh
    | cons x m ih => intro h hh; exact ih _ (mixL_bd _ _)
  exact this _ _ (by omega)
theorem hdK_append (l m : List ByteArray) {k : Nat} (h : k ≤ l.length) : hdK (l ++ m) k = hdK l k := by
  unfold hdK; rw [List.take_append_of_le_length h]
theorem cnt_le (l : List ByteArray) : cnt l ≤ l.length ∧ cnt l ≤ 400 := by unfold cnt; split <;> omega
theorem headsF_len (l : List ByteArray) : (headsF l).length = cnt l + 1 := by simp [headsF]
theorem headsF_at (l : List ByteArray) {k : Nat} (h : k ≤ cnt l) : (headsF l).getD k 0 = hdK l k := by
  unfold headsF; simp [List.getD, show k < cnt l + 1 by omega]
theorem headsF_step (l : List ByteArray) (k : Nat) : (List.range (k + 1)).map (hdK l) = (List.range k).map (hdK l) ++ [hdK l k] := by
  rw [List.range_succ, List.map_append]; rfl
theorem heads_pre (l : List ByteArray) {k n : Nat} (h : k ≤ n) : (List.range k).map (hdK l) <+: (List.range n).map (hdK l) := by
  obtain ⟨m, rfl⟩ : ∃ m, n = k + m := ⟨n - k, by omega⟩
  rw [List.range_add, List.map_append]
  exact List.prefix_append _ _

/-- from the ends back: up to the first place at which not both texts and both heads ahead are the same -/
def seekL (a b : List ByteArray) : Nat → Nat → Nat × Nat × Bool
  | i + 1, j + 1 => if a.getD i S0 = b.getD j S0 ∧ hdK a i = hdK b j then seekL a b i j else (i + 1, j + 1, true)
  | 0, j => (0, j, decide (0 ≠ j))
  | i + 1, 0 => (i + 1, 0, true)
/-- ChainClash -/
def clashF (a b : List ByteArray) : Nat × Nat × Bool :=
  if 400 < a.length ∨ 400 < b.length ∨ headF a ≠ headF b then (0, 0, false) else seekL a b a.length b.length
theorem seek_end (a b : List ByteArray) {i j : Nat} (h : i = 0 ∨ j = 0) : seekL a b i j = (i, j, decide (i ≠ j)) := by
  rcases h with rfl | rfl
  · cases j <;> simp [seekL]
  · cases i <;> simp [seekL]
theorem seek_stop (a b : List ByteArray) {i j : Nat} (h : ¬ (a.getD i S0 = b.getD j S0 ∧ hdK a i = hdK b j)) : seekL a b (i + 1) (j + 1) = (i + 1, j + 1, true) := by
  unfold seekL; rw [if_neg h]
theorem seek_on (a b : List ByteArray) {i j : Nat} (h : a.getD i S0 = b.getD j S0 ∧ hdK a i = hdK b j) : seekL a b (i + 1) (j + 1) = seekL a b i j := by
  rw [seekL, if_pos h]
end Go.Proofs.Ytgaflnkefjmblaa.Chain
