/-
  Drawn words and drawn uses: of, l2Uses.
-/
import Derived.Test.YthhkjbhkginecaaRd2
import Derived.Test.YthhkjbhkginecaaApp2
import Derived.Test.YthhkjbhkginecaaUses
namespace Go.Proofs.Ythhkjbhkginecaa.Draw
set_option linter.unusedVariables false
open Go.RowKit App2

/-- of: one of a list's words -/
theorem wordOf (Q : ByteArray → Prop) (b p g o len cap : Nat) (w : World) (hR : Rd w b p) (hp : p ≤ 1000000000) (hlen : 1 ≤ len) (hcap : len ≤ 9223372036854775807) (hgb : g ≠ b) (hc : ∀ i, i < len → ∃ z : ByteArray, Q z ∧ w.cell? ⟨g, o + i, none⟩ = some (.string z)) :
    Calls Try.prog 52 #[.pointer (some ⟨b, 0, none⟩), .slice (some ⟨g, o, none⟩) len cap] w fun e w' => ∃ z, e = .returned (.string z) ∧ Q z ∧ Rd w' b (p + 1) ∧ w.grownBy w' (some b) := by
  go_enter Try.func52, Try.ntmps52
  go_wp2_with fail
  refine (pick _ _ _ _ hR hp).mono ?_
  rintro e w' ⟨r, rfl, r0, r1, hR', hg⟩
  obtain ⟨k, rfl⟩ := Int.eq_ofNat_of_zero_le r0
  have hk : k < len := by omega
  obtain ⟨z, hQ, hz⟩ := hc k hk
  have hz' := hg.cell hz (by simpa using hgb)
  clear hz hc r1
  go_wp2
  go_ret
  exact ⟨z, rfl, hQ, hR', hg⟩

theorem new_words (Q : ByteArray → Prop) (w : World) (xs : List ByteArray) (t : TypeId) (h : ∀ z ∈ xs, Q z) : ∀ i, i < xs.length → ∃ z : ByteArray, Q z ∧ (w.alloc (.cells (xs.map Value.string).toArray t)).cell? ⟨w.heap.size, 0 + i, none⟩ = some (.string z) := by
  intro i hi
  refine ⟨xs[i], h _ (List.getElem_mem hi), ?_⟩
  have e1 := (MapKept.heap_alloc w (.cells (xs.map Value.string).toArray t)).1
  simp only [World.cell?]
  rw [e1]
  simp [hi]

abbrev fU : Uses.U → Value := fun u => .string u.1
abbrev gU : Uses.U → Value := fun u => .int .i64 u.2
abbrev OwnU (W : World) (B b cap : Nat) (l : List Uses.U) : Prop := Own2 46 fU gU W B b cap l
def isWord (z : ByteArray) : Prop := z.size ≤ 8
def isQty (z : Int) : Prop := True

theorem infoExU : ∃ i, Try.prog.info? 46 = some i ∧ i.zero = some (.agg #[.string ByteArray.empty, .int .i64 0]) ∧ i.size = 2 ∧ i.bytes = 24 := by
  obtain ⟨i, hi, h2⟩ := Option.map_eq_some_iff.1 Uses.infoU
  simp only [Prod.mk.injEq] at h2
  exact ⟨i, hi, h2.1, h2.2.1, h2.2.2⟩
theorem OwnU.ur {W : World} {B b cap : Nat} {l : List Uses.U} (h : OwnU W B b cap l) : Uses.UR W (.slice (some ⟨b, 0, none⟩) l.length cap) l := by
  refine .inr ⟨b, 0, cap, rfl, h.lt.2, fun i hi => ?_⟩
  have := h.cells i (l.getD i Uses.U0) (by simp [List.getD, hi])
  rw [Nat.zero_add]
  exact this

end Go.Proofs.Ythhkjbhkginecaa.Draw
