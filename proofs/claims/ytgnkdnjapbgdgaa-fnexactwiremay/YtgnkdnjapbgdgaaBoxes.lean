/-
  Boxes: blocks of a few cells that a call has laid for itself (arguments, results, variables).
-/
import Derived.Test.YtgnkdnjapbgdgaaProg
import Derived.WalkKit
import Derived.Below
import Derived.Deep.OwnRows
import Derived.WalkMore
import Derived.Outline
namespace Go.Proofs.Ytgnkdnjapbgdgaa.Boxes
set_option linter.unusedVariables false
open Go.RowKit

theorem hide {p : Prop} (h : p) : Hid p := h
theorem unhide {p : Prop} (h : Hid p) : p := h

/-- block b holds these cells, none of them frozen -/
def At (W : World) (b : Nat) (cs : List Value) : Prop := ∀ i v, cs[i]? = some v → W.cell? ⟨b, i, none⟩ = some v ∧ W.frozen? ⟨b, i, none⟩ = false
theorem At.kept {W W' : World} {b : Nat} {cs : List Value} (h : At W b cs) (hb : W'.heap[b]? = W.heap[b]?) : At W' b cs :=
  fun i v hi => ⟨(World.cell?_of_block (w := W) hb).trans (h i v hi).1, (World.frozen?_of_block (w := W) hb).trans (h i v hi).2⟩
theorem At.below {W W' : World} {b : Nat} {cs : List Value} (h : At W b cs) (hb : Below W.heap.size W W') (hl : b < W.heap.size) : At W' b cs := h.kept (hb.block b hl)
theorem At.new (w : World) (cs : Array Value) (t : TypeId) : At (w.alloc (.cells cs t)) w.heap.size cs.toList := by
  have e1 := (MapKept.heap_alloc w (.cells cs t)).1
  intro i v hi
  simp only [World.cell?, World.frozen?]
  rw [e1]
  have hi' : cs[i]? = some v := by simpa using hi
  simp [hi']
theorem At.set {W : World} {b : Nat} {cs : List Value} (h : At W b cs) (k : Nat) (u : Value) : At (W.setCell ⟨b, k, none⟩ u) b (cs.set k u) := by
  intro i v hi
  by_cases e : i = k
  · subst e
    by_cases hl : i < cs.length
    · rw [List.getElem?_set_self hl] at hi
      obtain rfl := Option.some.inj hi
      have := h i _ (List.getElem?_eq_getElem hl)
      exact ⟨World.cell?_setCell_same _ _ _ this.1, by simpa [World.frozen?_setCell] using this.2⟩
    · have e2 : (cs.set i u)[i]? = none := by simp; omega
      rw [e2] at hi; cases hi
  · rw [List.getElem?_set_ne (fun h => e h.symm)] at hi
    obtain ⟨h1, h2⟩ := h i v hi
    exact ⟨by rw [World.cell?_setCell_other _ _ _ _ (by intro e'; simp only [Addr.mk.injEq, and_true, true_and] at e'; omega)]; exact h1, by simpa [World.frozen?_setCell] using h2⟩
theorem At.other {W : World} {b g k : Nat} {cs : List Value} (h : At W b cs) (u : Value) (hg : g ≠ b) : At (W.setCell ⟨g, k, none⟩ u) b cs :=
  h.kept (Below.heap_setCell W ⟨g, k, none⟩ u b (by simp; omega))
theorem At.lt {W : World} {b : Nat} {v : Value} {cs : List Value} (h : At W b (v :: cs)) : b < W.heap.size := by
  refine Nat.lt_of_not_le fun hn => ?_
  have h2 : W.heap[b]? = none := by simp; omega
  have := (h 0 v rfl).1
  simp [World.cell?, h2] at this

theorem box1 {w w1 : World} {A : Array Value} {t : TypeId} (hb : Below (w.alloc (.cells A t)).heap.size (w.alloc (.cells A t)) w1) :
    At w1 w.heap.size A.toList ∧ Below w.heap.size w w1 ∧ w.heap.size + 1 ≤ w1.heap.size :=
  ⟨(At.new w A t).kept (hb.block _ (by simp)), ((Below.refl _ w).alloc (Nat.le_refl _) _).trans (hb.mono (by simp)), by have := hb.size; simpa using this⟩
theorem box2 {w w1 : World} {A B : Array Value} {t s : TypeId} (hb : Below ((w.alloc (.cells A t)).alloc (.cells B s)).heap.size ((w.alloc (.cells A t)).alloc (.cells B s)) w1) :
    At w1 w.heap.size A.toList ∧ At w1 (w.heap.size + 1) B.toList ∧ Below w.heap.size w w1 ∧ w.heap.size + 2 ≤ w1.heap.size := by
  obtain ⟨h2, h3, h4⟩ := box1 hb
  obtain ⟨h1, h5, h6⟩ := box1 h3
  rw [World.size_alloc] at h2 h4
  exact ⟨h1, h2, h5, h4⟩
theorem box3 {w w1 : World} {A B C : Array Value} {t s r : TypeId} (hb : Below (((w.alloc (.cells A t)).alloc (.cells B s)).alloc (.cells C r)).heap.size (((w.alloc (.cells A t)).alloc (.cells B s)).alloc (.cells C r)) w1) :
    At w1 w.heap.size A.toList ∧ At w1 (w.heap.size + 1) B.toList ∧ At w1 (w.heap.size + 1 + 1) C.toList ∧ Below w.heap.size w w1 ∧ w.heap.size + 3 ≤ w1.heap.size := by
  obtain ⟨h3, h4, h5⟩ := box1 hb
  obtain ⟨h1, h2, h6, h7⟩ := box2 h4
  rw [World.size_alloc, World.size_alloc] at h3 h5
  exact ⟨h1, h2, h3, h6, h5⟩
theorem below3 (w : World) (A B C : Obj) : Below w.heap.size w (((w.alloc A).alloc B).alloc C) := (((Below.refl _ w).alloc (Nat.le_refl _) _).alloc (by simp) _).alloc (by simp; omega) _
end Go.Proofs.Ytgnkdnjapbgdgaa.Boxes
