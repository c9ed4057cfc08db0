/-
  toRuleExpr, toRuleExprS; eqRuleExpr, eqRuleExprS.
-/
import Derived.Test.YtdpefmjlmpjjbaaCopy
namespace Go.Proofs.Ytdpefmjlmpjjbaa.Rule
set_option linter.unusedVariables false
open Go.RowKit Tiers

/-- five cells of block b, none of them frozen -/
def At5 (W : World) (B : Nat) (a b c d e : Value) : Prop := (W.cell? ⟨B, 0, none⟩ = some a ∧ W.cell? ⟨B, 1, none⟩ = some b ∧ W.cell? ⟨B, 2, none⟩ = some c ∧ W.cell? ⟨B, 3, none⟩ = some d ∧ W.cell? ⟨B, 4, none⟩ = some e) ∧
  W.frozen? ⟨B, 0, none⟩ = false ∧ W.frozen? ⟨B, 1, none⟩ = false ∧ W.frozen? ⟨B, 2, none⟩ = false ∧ W.frozen? ⟨B, 3, none⟩ = false ∧ W.frozen? ⟨B, 4, none⟩ = false
theorem At5.kept {W W' : World} {B : Nat} {a b c d e : Value} (h : At5 W B a b c d e) (hb : W'.heap[B]? = W.heap[B]?) : At5 W' B a b c d e := by
  obtain ⟨⟨h0, h1, h2, h3, h4⟩, f0, f1, f2, f3, f4⟩ := h
  exact ⟨⟨(World.cell?_of_block (w := W) hb).trans h0, (World.cell?_of_block (w := W) hb).trans h1, (World.cell?_of_block (w := W) hb).trans h2, (World.cell?_of_block (w := W) hb).trans h3, (World.cell?_of_block (w := W) hb).trans h4⟩,
    (World.frozen?_of_block (w := W) hb).trans f0, (World.frozen?_of_block (w := W) hb).trans f1, (World.frozen?_of_block (w := W) hb).trans f2, (World.frozen?_of_block (w := W) hb).trans f3, (World.frozen?_of_block (w := W) hb).trans f4⟩
theorem At5.new (w : World) (a b c d e : Value) (t : TypeId) : At5 (w.alloc (.cells #[a, b, c, d, e] t)) w.heap.size a b c d e := by
  have e1 := (MapKept.heap_alloc w (.cells #[a, b, c, d, e] t)).1
  unfold At5
  simp only [World.cell?, World.frozen?]
  rw [e1]; simp
theorem At5.set3 {W : World} {B : Nat} {a b c d e : Value} (h : At5 W B a b c d e) (u : Value) : At5 (W.setCell ⟨B, 3, none⟩ u) B a b c u e := by
  obtain ⟨⟨h0, h1, h2, h3, h4⟩, hf⟩ := h
  refine ⟨⟨?_, ?_, ?_, World.cell?_setCell_same _ _ _ h3, ?_⟩, ?_⟩
  · rw [World.cell?_setCell_other _ _ _ _ (off_ne (by omega))]; exact h0
  · rw [World.cell?_setCell_other _ _ _ _ (off_ne (by omega))]; exact h1
  · rw [World.cell?_setCell_other _ _ _ _ (off_ne (by omega))]; exact h2
  · rw [World.cell?_setCell_other _ _ _ _ (off_ne (by omega))]; exact h4
  · simpa [World.frozen?_setCell] using hf
theorem At5.lt {W : World} {B : Nat} {a b c d e : Value} (h : At5 W B a b c d e) : B < W.heap.size := lt_of_cell h.1.1

theorem wtL_len (l : List Ex) : l.length ≤ wtL l := by rw [wtL_eq]; omega

end Go.Proofs.Ytdpefmjlmpjjbaa.Rule
