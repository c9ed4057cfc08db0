/-
  What the place of a clash says, plainly.
-/
import Derived.Test.YtgaflnkefjmblaaChainM
namespace Go.Proofs.Ytgaflnkefjmblaa.Chain
set_option linter.unusedVariables false
open Go.RowKit
open Txt (S0)

theorem seek_le (A B : List ByteArray) : ∀ i j, (seekL A B i j).1 ≤ i ∧ (seekL A B i j).2.1 ≤ j
  | 0, j => by rw [seek_end A B (.inl rfl)]; exact ⟨Nat.le_refl _, Nat.le_refl _⟩
  | i + 1, 0 => by rw [seek_end A B (.inr rfl)]; exact ⟨Nat.le_refl _, Nat.le_refl _⟩
  | i + 1, j + 1 => by
    by_cases h : A.getD i S0 = B.getD j S0 ∧ hdK A i = hdK B j
    · rw [seek_on A B h]
      have := seek_le A B i j
      exact ⟨by omega, by omega⟩
    · rw [seek_stop A B h]
      exact ⟨Nat.le_refl _, Nat.le_refl _⟩
theorem seek_head (A B : List ByteArray) : ∀ i j, hdK A i = hdK B j → hdK A (seekL A B i j).1 = hdK B (seekL A B i j).2.1
  | 0, j, h => by rw [seek_end A B (.inl rfl)]; exact h
  | i + 1, 0, h => by rw [seek_end A B (.inr rfl)]; exact h
  | i + 1, j + 1, h => by
    by_cases h2 : A.getD i S0 = B.getD j S0 ∧ hdK A i = hdK B j
    · rw [seek_on A B h2]; exact seek_head A B i j h2.2
    · rw [seek_stop A B h2]; exact h
theorem seek_unlike (A B : List ByteArray) : ∀ i j p q, seekL A B i j = (p + 1, q + 1, true) → ¬ (A.getD p S0 = B.getD q S0 ∧ hdK A p = hdK B q)
  | 0, j, p, q, h => by rw [seek_end A B (.inl rfl)] at h; simp at h
  | i + 1, 0, p, q, h => by rw [seek_end A B (.inr rfl)] at h; simp at h
  | i + 1, j + 1, p, q, h => by
    by_cases h2 : A.getD i S0 = B.getD j S0 ∧ hdK A i = hdK B j
    · rw [seek_on A B h2] at h; exact seek_unlike A B i j p q h
    · rw [seek_stop A B h2] at h
      simp only [Prod.mk.injEq, Nat.add_right_cancel_iff, and_true] at h
      obtain ⟨rfl, rfl⟩ := h
      exact h2
theorem seek_same (A B : List ByteArray) : ∀ i j, (seekL A B i j).2.2 = false → i = j ∧ ∀ k, k < i → A.getD k S0 = B.getD k S0
  | 0, j, h => by
    rw [seek_end A B (.inl rfl)] at h
    have : 0 = j := by simpa using h
    exact ⟨this, fun k hk => by omega⟩
  | i + 1, 0, h => by rw [seek_end A B (.inr rfl)] at h; simp at h
  | i + 1, j + 1, h => by
    by_cases h2 : A.getD i S0 = B.getD j S0 ∧ hdK A i = hdK B j
    · rw [seek_on A B h2] at h
      obtain ⟨rfl, h3⟩ := seek_same A B i j h
      refine ⟨rfl, fun k hk => ?_⟩
      by_cases e : k = i
      · subst e; exact h2.1
      · exact h3 k (by omega)
    · rw [seek_stop A B h2] at h; simp at h
theorem seek_self (A : List ByteArray) : ∀ i, seekL A A i i = (0, 0, false)
  | 0 => by rw [seek_end A A (.inl rfl)]; rfl
  | i + 1 => by rw [seek_on A A ⟨rfl, rfl⟩]; exact seek_self A i
/-- lists that are unlike and have one head have a clash -/
theorem clash_true {A B : List ByteArray} (h1 : A.length ≤ 400) (h2 : B.length ≤ 400) (h : headF A = headF B) (hne : A ≠ B) : ∃ p q, clashF A B = (p, q, true) ∧ p ≤ A.length ∧ q ≤ B.length ∧ hdK A p = hdK B q ∧
    (∀ i j, p = i + 1 → q = j + 1 → ¬ (A.getD i S0 = B.getD j S0 ∧ hdK A i = hdK B j)) := by
  have e : clashF A B = seekL A B A.length B.length := by unfold clashF; rw [if_neg (by rintro (h3 | h3 | h3); omega; omega; exact h3 h)]
  have hl := seek_le A B A.length B.length
  have hA : hdK A A.length = hdK B B.length := by
    have a1 : cnt A = A.length := by unfold cnt; rw [if_pos h1]
    have b1 : cnt B = B.length := by unfold cnt; rw [if_pos h2]
    unfold headF at h; rwa [a1, b1] at h
  have hh := seek_head A B A.length B.length hA
  have ht : (seekL A B A.length B.length).2.2 = true := by
    cases hb : (seekL A B A.length B.length).2.2 with
    | true => rfl
    | false =>
      obtain ⟨h3, h4⟩ := seek_same A B _ _ hb
      exact absurd (Txt.getD_eq h3 h4) hne
  refine ⟨(seekL A B A.length B.length).1, (seekL A B A.length B.length).2.1, ?_, hl.1, hl.2, hh, fun i j hi hj => ?_⟩
  · rw [e, ← ht]
  · exact seek_unlike A B A.length B.length i j (by rw [← hi, ← hj, ← ht])
theorem clash_self {A : List ByteArray} (h1 : A.length ≤ 400) : clashF A A = (0, 0, false) := by
  unfold clashF; rw [if_neg (by rintro (h3 | h3 | h3); omega; omega; exact h3 rfl)]; exact seek_self A _
end Go.Proofs.Ytgaflnkefjmblaa.Chain
