/-
  The reader of drawn codes: one of a list's words.
-/
import Derived.Test.YtpamdnkngedmaaaDoorRd2
namespace Go.Proofs.YtpamdnkngedmaaaDoor.Draw
set_option linter.unusedVariables false
open Go.RowKit

/-- of: one of a list's words -/
theorem wordOf (Q : ByteArray → Prop) (b p g o len cap : Nat) (w : World) (hR : Rd w b p) (hp : p ≤ 1000000000) (hlen : 1 ≤ len) (hcap : len ≤ 9223372036854775807) (hgb : g ≠ b) (hc : ∀ i, i < len → ∃ z : ByteArray, Q z ∧ w.cell? ⟨g, o + i, none⟩ = some (.string z)) :
    Calls Tryd.prog 21 #[.pointer (some ⟨b, 0, none⟩), .slice (some ⟨g, o, none⟩) len cap] w fun e w' => ∃ z, e = .returned (.string z) ∧ Q z ∧ Rd w' b (p + 1) ∧ w.grownBy w' (some b) := by
  go_enter Tryd.func21, Tryd.ntmps21
  go_wp2_with fail
  refine (pick _ _ _ _ hR hp).mono ?_
  rintro e w' ⟨r, rfl, r0, r1, hR', hg⟩
  obtain ⟨k, rfl⟩ := Int.eq_ofNat_of_zero_le r0
  have hk : k < len := by omega
  obtain ⟨z, hQ, hz⟩ := hc k hk
  have hz' := hg.cell hz (by simpa using hgb)
  clear hz hc r1
  go_wp2
  go_ret
  exact ⟨z, rfl, hQ, hR', hg⟩

theorem new_words (Q : ByteArray → Prop) (w : World) (xs : List ByteArray) (t : TypeId) (h : ∀ z ∈ xs, Q z) : ∀ i, i < xs.length → ∃ z : ByteArray, Q z ∧ (w.alloc (.cells (xs.map Value.string).toArray t)).cell? ⟨w.heap.size, 0 + i, none⟩ = some (.string z) := by
  intro i hi
  refine ⟨xs[i], h _ (List.getElem_mem hi), ?_⟩
  have e1 := (MapKept.heap_alloc w (.cells (xs.map Value.string).toArray t)).1
  simp only [World.cell?]
  rw [e1]
  simp [hi]
end Go.Proofs.YtpamdnkngedmaaaDoor.Draw
