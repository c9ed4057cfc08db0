/-
  The law on UseFix: impl.UseFix answers as spec.UseFix, writes into no argument, and its answer owns its memory.
-/
import Derived.Test.YthhkjbhkginecaaPutS
namespace Go.Proofs.Ythhkjbhkginecaa.Evs
set_option linter.unusedVariables false
open Go.RowKit Go.Maps MapM

/-- a slice of the call's own lies apart from what is written -/
theorem EN.keptG {B : Nat} {W W' : World} {v : Value} {l : List E} {r : Option Nat} (h : EN B W v l) (hg : W.grownBy W' r) (hr : ∀ b, r = some b → b < B) : EN B W' v l := by
  rcases h with h | ⟨b, cap, rfl, h1, hc⟩
  · exact .inl h
  · refine .inr ⟨b, cap, rfl, h1, ⟨Nat.lt_of_lt_of_le hc.1.1 hg.size, fun i hi => ?_⟩, fun j => ?_⟩
    · have hblk : W'.heap[b]? = W.heap[b]? := hg.block b hc.1.1 (fun e => by have := hr b e.symm; omega)
      have key : ∀ o : Nat, W'.cell? ⟨b, o, none⟩ = W.cell? ⟨b, o, none⟩ := fun o => World.cell?_of_block hblk
      obtain ⟨c0, c1, c2⟩ := hc.1.2 i hi
      exact ⟨(key _).trans c0, (key _).trans c1, (key _).trans c2⟩
    · have hblk : W'.heap[b]? = W.heap[b]? := hg.block b hc.1.1 (fun e => by have := hr b e.symm; omega)
      have key : W'.frozen? ⟨b, j, none⟩ = W.frozen? ⟨b, j, none⟩ := World.frozen?_of_block hblk
      exact key.trans (hc.2 j)
/-- what came in lies below what the call has laid -/
theorem ER.keptG {n : Nat} {W W0 W' : World} {v : Value} {l : List E} (h : ER W0 v l) (h0 : Below W0.heap.size W0 W) (hg : W.grownBy W' (some n)) (hn : W0.heap.size ≤ n) : Below W0.heap.size W0 W' :=
  h0.grown hg h0.size (fun j hj => by cases hj; exact hn)
theorem EN.block {B : Nat} {W : World} {v : Value} {l : List E} (h : EN B W v l) (hl : l ≠ []) : ∃ b, v.ownBlock = some b ∧ B ≤ b ∧ b < W.heap.size := by
  rcases h with ⟨h, _⟩ | ⟨b, cap, rfl, h1, hc⟩
  · exact absurd h hl
  · exact ⟨b, rfl, h1.1, hc.1.1⟩

end Go.Proofs.Ythhkjbhkginecaa.Evs
