/-
  The law on RuleOk.
-/
import Derived.Test.YtdpefmjlmpjjbaaOkI3
import Derived.Test.YtdpefmjlmpjjbaaEqE
namespace Go.Proofs.Ytdpefmjlmpjjbaa.Rule
set_option linter.unusedVariables false
open Go.RowKit Tiers

/-- the value of an expression, written out -/
abbrev exV (e : Ex) (ka : Option Addr) (kc : Nat) (ta : Option Addr) (tc : Nat) : Value := .agg #[.int .i64 e.kind, .int .i64 e.num, .string e.meter, .slice ka e.kids.length kc, .slice ta e.tiers.length tc]
theorem EV.form {lo hi : Nat} {W : World} {d : Nat} {v : Value} {e : Ex} (h : EV lo hi W d v e) : ∃ ka kc ta tc, v = exV e ka kc ta tc := by
  obtain ⟨kv, tv, rfl, hz, hk, ht⟩ := h
  obtain ⟨ta, tc, rfl⟩ := ht.form
  obtain ⟨ka, kc, rfl, _⟩ := hk.form
  exact ⟨_, _, _, _, rfl⟩
/-- a box that holds an expression -/
def Box (W : World) (B : Nat) (e : Ex) (ka : Option Addr) (kc : Nat) (ta : Option Addr) (tc : Nat) : Prop :=
  W.cell? ⟨B, 0, none⟩ = some (.int .i64 e.kind) ∧ W.cell? ⟨B, 1, none⟩ = some (.int .i64 e.num) ∧ W.cell? ⟨B, 2, none⟩ = some (.string e.meter) ∧ W.cell? ⟨B, 3, none⟩ = some (.slice ka e.kids.length kc) ∧ W.cell? ⟨B, 4, none⟩ = some (.slice ta e.tiers.length tc)
theorem Box.kept {W W' : World} {B : Nat} {e : Ex} {ka : Option Addr} {kc : Nat} {ta : Option Addr} {tc : Nat} (h : Box W B e ka kc ta tc) (hb : Below W.heap.size W W') : Box W' B e ka kc ta tc := by
  have hB := lt_of_cell h.1
  exact ⟨(hb.cell (p := ⟨B, 0, none⟩) hB).trans h.1, (hb.cell (p := ⟨B, 1, none⟩) hB).trans h.2.1, (hb.cell (p := ⟨B, 2, none⟩) hB).trans h.2.2.1, (hb.cell (p := ⟨B, 3, none⟩) hB).trans h.2.2.2.1, (hb.cell (p := ⟨B, 4, none⟩) hB).trans h.2.2.2.2⟩
theorem Box.new (w : World) (e : Ex) (ka : Option Addr) (kc : Nat) (ta : Option Addr) (tc : Nat) (t : TypeId) : Box (w.alloc (.cells #[.int .i64 e.kind, .int .i64 e.num, .string e.meter, .slice ka e.kids.length kc, .slice ta e.tiers.length tc] t)) w.heap.size e ka kc ta tc := new5 w _ _ _ _ _ t
theorem keptE {lo hi : Nat} {W W' : World} {d : Nat} {v : Value} {e : Ex} (h : EV lo hi W d v e) (hh : hi ≤ W.heap.size) (hb : Below W.heap.size W W') : EV lo hi W' d v e := h.kept (same_below hb hh)

end Go.Proofs.Ytdpefmjlmpjjbaa.Rule
