/-
  A slice of uses of a call's own.
-/
import Derived.Test.YthhkjbhkginecaaUses
namespace Go.Proofs.Ythhkjbhkginecaa.Sums
set_option linter.unusedVariables false
open Go.RowKit
open Uses (U U0 UOwn UC UR)

/-- the slice v holds the uses l in a block of its own, not below B -/
def UN (B : Nat) (W : World) (v : Value) (l : List U) : Prop :=
  (l = [] ∧ ∃ a c, v = .slice a 0 c) ∨ ∃ b cap, v = .slice (some ⟨b, 0, none⟩) l.length cap ∧ (B ≤ b ∧ l.length ≤ cap) ∧ UOwn W b l
theorem UN.ur {B : Nat} {W : World} {v : Value} {l : List U} (h : UN B W v l) : UR W v l := by
  rcases h with h | ⟨b, cap, rfl, _, hc⟩
  · exact .inl h
  · exact .inr ⟨b, 0, cap, rfl, hc.1⟩
theorem UN.kept {B : Nat} {W W' : World} {v : Value} {l : List U} (h : UN B W v l) (hb : Below W.heap.size W W') : UN B W' v l := by
  rcases h with h | ⟨b, cap, rfl, h1, hc⟩
  · exact .inl h
  · exact .inr ⟨b, cap, rfl, h1, hc.kept hb⟩

/-- a slice of the call's own lies apart from what is written -/
theorem UN.keptG {B : Nat} {W W' : World} {v : Value} {l : List U} {r : Option Nat} (h : UN B W v l) (hg : W.grownBy W' r) (hr : ∀ b, r = some b → b < B) : UN B W' v l := by
  rcases h with h | ⟨b, cap, rfl, h1, hc⟩
  · exact .inl h
  · refine .inr ⟨b, cap, rfl, h1, ⟨Nat.lt_of_lt_of_le hc.1.1 hg.size, fun i hi => ?_⟩, fun j => ?_⟩
    · have hblk : W'.heap[b]? = W.heap[b]? := hg.block b hc.1.1 (fun e => by have := hr b e.symm; omega)
      have key : ∀ o : Nat, W'.cell? ⟨b, o, none⟩ = W.cell? ⟨b, o, none⟩ := fun o => World.cell?_of_block hblk
      obtain ⟨c0, c1⟩ := hc.1.2 i hi
      exact ⟨(key _).trans c0, (key _).trans c1⟩
    · have hblk : W'.heap[b]? = W.heap[b]? := hg.block b hc.1.1 (fun e => by have := hr b e.symm; omega)
      have key : W'.frozen? ⟨b, j, none⟩ = W.frozen? ⟨b, j, none⟩ := World.frozen?_of_block hblk
      exact key.trans (hc.2 j)
theorem UN.low {B B' : Nat} {W : World} {v : Value} {l : List U} (h : UN B W v l) (hb : B' ≤ B) : UN B' W v l := by
  rcases h with h | ⟨b, cap, rfl, h1, hc⟩
  · exact .inl h
  · exact .inr ⟨b, cap, rfl, ⟨Nat.le_trans hb h1.1, h1.2⟩, hc⟩
end Go.Proofs.Ythhkjbhkginecaa.Sums
