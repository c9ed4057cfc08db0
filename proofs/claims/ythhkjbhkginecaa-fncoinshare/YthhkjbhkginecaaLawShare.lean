/-
  The law: CoinShare answers as the document's, at every argument.
-/
import Derived.Test.YthhkjbhkginecaaLawShare0
namespace Go.Proofs.Ythhkjbhkginecaa.Share
set_option linter.unusedVariables false
open Go.RowKit Ints

theorem IR.lt {W : World} {v : Value} {l : List Int} (h : IR W v l) {g : Nat} (hg : v.ownBlock = some g) : g < W.heap.size := by
  rcases h with ⟨rfl, _⟩ | ⟨b, o, cap, rfl, _, hc⟩
  · simp [Value.ownBlock] at hg
  · have : b = g := by simpa [Value.ownBlock] using hg
    subst this; exact hc.1

theorem rd_of {w : World} {a : Option Addr} {len cap : Nat} {zs : List Int} (h : (a = none ∧ len = 0 ∧ cap = 0 ∧ zs = []) ∨
    ∃ x, a = some x ∧ len ≤ cap ∧ cap ≤ maxLen ∧ zs.length = cap ∧ (∀ i, i < zs.length → w.cell? (x.add i) = some (.int .i64 (zs.getD i 0))) ∧ ∀ n ∈ zs, (Lit.int .i64 n).wf = true) (hl : len ≤ 1048576) : Rd w a len (zs.take len) := by
  rcases h with ⟨rfl, rfl, rfl, rfl⟩ | ⟨x, rfl, h1, _, h2, h3, _⟩
  · exact ⟨rfl, hl, .inl rfl⟩
  · refine ⟨by simp; omega, hl, ?_⟩
    by_cases h0 : len = 0
    · exact .inl h0
    · right
      have hc := h3 0 (by omega)
      obtain ⟨b, o, sp⟩ := x
      have e0 : Addr.add ⟨b, o, sp⟩ 0 = ⟨b, o, sp⟩ := by simp [Addr.add]
      rw [e0] at hc
      have hsp : sp = none := by
        cases sp with
        | none => rfl
        | some s =>
          simp only [World.cell?] at hc
          split at hc
          · simp at hc
          · cases hc
      subst hsp
      refine ⟨b, o, rfl, World.block_lt_of_cell? w _ hc, fun i hi => ?_⟩
      have := h3 i (by omega)
      rw [Addr.add_lit] at this
      rw [this]
      congr 2
      rw [List.getD_eq_getElem?_getD, List.getD_eq_getElem?_getD, List.getElem?_take, if_pos hi]

theorem IR.keptB {W W' : World} {v : Value} {l : List Int} (h : IR W v l) (hb : Below W.heap.size W W') : IR W' v l :=
  h.kept (below_grown hb none) (by cases v.ownBlock <;> simp)

theorem IR.keptD {W : World} {v : Value} {l : List Int} (h : IR W v l) (k : Nat) : IR (W.drewN k) v l := h

theorem below_d {B : Nat} {w W : World} (h : Below B w W) (k : Nat) : Below B w (W.drewN k) := ⟨h.os, h.tape, h.output, h.size, h.block⟩

end Go.Proofs.Ythhkjbhkginecaa.Share
