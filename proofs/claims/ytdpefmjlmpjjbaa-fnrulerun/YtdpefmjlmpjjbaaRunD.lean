/-
  A tariff comes to one thing alone.
-/
import Derived.Test.YtdpefmjlmpjjbaaUsesM
import Derived.Test.YtdpefmjlmpjjbaaRunS4
namespace Go.Proofs.Ytdpefmjlmpjjbaa.Rule
set_option linter.unusedVariables false
open Go.RowKit

mutual
theorem Ev.det {us : List Uses.U} {e : Ex} {l : Nat} {v : Int} {c l' : Nat} : Ev us e l v c l' → ∀ {v2 : Int} {c2 l2 : Nat}, Ev us e l v2 c2 l2 → v = v2 ∧ c = c2 ∧ l' = l2
  | .out e, _, _, _, h2 => by cases h2; exact ⟨rfl, rfl, rfl⟩
  | .go h, _, _, _, h2 => Rest.det h h2.more
theorem Rest.det {us : List Uses.U} {e : Ex} {vs : List Int} {l : Nat} {v : Int} {c l' : Nat} : Rest us e vs l v c l' → ∀ {v2 : Int} {c2 l2 : Nat}, Rest us e vs l v2 c2 l2 → v = v2 ∧ c = c2 ∧ l' = l2
  | .kid hn h ho hl k, _, _, _, h2 => by
    cases h2 with
    | kid hn2 g _ _ gk =>
      rw [hn] at hn2
      cases hn2
      obtain ⟨rfl, _, rfl⟩ := Ev.det h g
      exact Rest.det k gk
    | bad hn2 g hc _ =>
      rw [hn] at hn2
      cases hn2
      exact absurd (Ev.det h g).2.1.symm hc
    | val hn2 _ => rw [hn] at hn2; cases hn2
    | over hn2 _ => rw [hn] at hn2; cases hn2
  | .bad hn h hc hl, _, _, _, h2 => by
    cases h2 with
    | kid hn2 g _ _ gk =>
      rw [hn] at hn2
      cases hn2
      exact absurd (Ev.det h g).2.1 hc
    | bad hn2 g hc2 _ =>
      rw [hn] at hn2
      cases hn2
      exact ⟨rfl, (Ev.det h g).2⟩
    | val hn2 _ => rw [hn] at hn2; cases hn2
    | over hn2 _ => rw [hn] at hn2; cases hn2
  | .val hn hv, _, _, _, h2 => by
    obtain ⟨h1, h3, h4⟩ := h2.yes hn hv
    exact ⟨h1.symm, h3.symm, h4.symm⟩
  | .over hn hv, _, _, _, h2 => by
    cases h2 with
    | kid hn2 => rw [hn] at hn2; cases hn2
    | bad hn2 => rw [hn] at hn2; cases hn2
    | val _ hv2 => rw [hv] at hv2; cases hv2
    | over => exact ⟨rfl, rfl, rfl⟩
end
theorem RunOf.det {us : List Uses.U} {e : Ex} {f v c t v2 c2 t2 : Int} (h : RunOf us e f v c t) (h2 : RunOf us e f v2 c2 t2) : v = v2 ∧ c = c2 ∧ t = t2 := by
  unfold RunOf at h h2
  split at h
  · rename_i hy
    rw [if_pos hy] at h2
    obtain ⟨n', c', l', hE, rfl, _, rfl, rfl⟩ := h
    obtain ⟨n2, c2', l2, hE2, rfl, _, rfl, rfl⟩ := h2
    obtain ⟨rfl, rfl, rfl⟩ := Ev.det hE hE2
    exact ⟨rfl, rfl, rfl⟩
  · rename_i hy
    rw [if_neg hy] at h2
    obtain ⟨rfl, rfl, rfl⟩ := h
    obtain ⟨rfl, rfl, rfl⟩ := h2
    exact ⟨rfl, rfl, rfl⟩
theorem RunOf.congr {us us' : List Uses.U} (hu : ∀ m, Uses.ofV m us = Uses.ofV m us') {e : Ex} {f v c t : Int} (h : RunOf us e f v c t) : RunOf us' e f v c t := by
  unfold RunOf at h ⊢
  split at h
  · rename_i hy
    rw [if_pos hy]
    obtain ⟨n', c', l', hE, h1, h2, h3, h4⟩ := h
    exact ⟨n', c', l', Ev.congr hu hE, h1, h2, h3, h4⟩
  · rename_i hy
    rw [if_neg hy]
    exact h
end Go.Proofs.Ytdpefmjlmpjjbaa.Rule
