/-
  Expressions in memory: the copy.
-/
import Derived.Test.YtdpefmjlmpjjbaaExprs
namespace Go.Proofs.Ytdpefmjlmpjjbaa.Rule
set_option linter.unusedVariables false
open Go.RowKit Tiers


/-! ### the copy of expressions -/

/-- element i of the row in block g, whose cells are not frozen: five cells -/
def Cell5 (W : World) (g i : Nat) (a b c d e : Value) : Prop := W.cell? ⟨g, i * 5, none⟩ = some a ∧ W.cell? ⟨g, i * 5 + 1, none⟩ = some b ∧ W.cell? ⟨g, i * 5 + 2, none⟩ = some c ∧ W.cell? ⟨g, i * 5 + 3, none⟩ = some d ∧ W.cell? ⟨g, i * 5 + 4, none⟩ = some e
/-- the world with element k of the row in block g turned -/
def set5 (W : World) (g k : Nat) (a b c d e : Value) : World := ((((W.setCell ⟨g, k * 5, none⟩ a).setCell ⟨g, k * 5 + 1, none⟩ b).setCell ⟨g, k * 5 + 2, none⟩ c).setCell ⟨g, k * 5 + 3, none⟩ d).setCell ⟨g, k * 5 + 4, none⟩ e

theorem cell5_kept {W W' : World} {g i : Nat} {a b c d e : Value} (h : Cell5 W g i a b c d e) (hb : W'.heap[g]? = W.heap[g]?) : Cell5 W' g i a b c d e :=
  ⟨(World.cell?_of_block (w := W) hb).trans h.1, (World.cell?_of_block (w := W) hb).trans h.2.1, (World.cell?_of_block (w := W) hb).trans h.2.2.1, (World.cell?_of_block (w := W) hb).trans h.2.2.2.1, (World.cell?_of_block (w := W) hb).trans h.2.2.2.2⟩
theorem off_ne {g x y : Nat} (h : x ≠ y) : (⟨g, x, none⟩ : Addr) ≠ ⟨g, y, none⟩ := fun e => h (congrArg Addr.off e)
theorem set5_far {W : World} {g k x : Nat} {a b c d e : Value} (h : x < k * 5 ∨ k * 5 + 5 ≤ x) : (set5 W g k a b c d e).cell? ⟨g, x, none⟩ = W.cell? ⟨g, x, none⟩ := by
  unfold set5
  rw [World.cell?_setCell_other _ _ _ _ (off_ne (by omega)), World.cell?_setCell_other _ _ _ _ (off_ne (by omega)), World.cell?_setCell_other _ _ _ _ (off_ne (by omega)), World.cell?_setCell_other _ _ _ _ (off_ne (by omega)), World.cell?_setCell_other _ _ _ _ (off_ne (by omega))]
theorem set5_other {W : World} {g k i : Nat} {a b c d e a' b' c' d' e' : Value} (h : Cell5 W g i a b c d e) (hi : i ≠ k) : Cell5 (set5 W g k a' b' c' d' e') g i a b c d e :=
  ⟨(set5_far (by omega)).trans h.1, (set5_far (by omega)).trans h.2.1, (set5_far (by omega)).trans h.2.2.1, (set5_far (by omega)).trans h.2.2.2.1, (set5_far (by omega)).trans h.2.2.2.2⟩
theorem set5_at {W : World} {g k : Nat} {a b c d e a' b' c' d' e' : Value} (h : Cell5 W g k a b c d e) : Cell5 (set5 W g k a' b' c' d' e') g k a' b' c' d' e' := by
  obtain ⟨h0, h1, h2, h3, h4⟩ := h
  unfold Cell5 set5
  refine ⟨?_, ?_, ?_, ?_, ?_⟩
  · rw [World.cell?_setCell_other _ _ _ _ (off_ne (by omega)), World.cell?_setCell_other _ _ _ _ (off_ne (by omega)), World.cell?_setCell_other _ _ _ _ (off_ne (by omega)), World.cell?_setCell_other _ _ _ _ (off_ne (by omega))]
    exact World.cell?_setCell_same _ _ _ h0
  · rw [World.cell?_setCell_other _ _ _ _ (off_ne (by omega)), World.cell?_setCell_other _ _ _ _ (off_ne (by omega)), World.cell?_setCell_other _ _ _ _ (off_ne (by omega))]
    exact World.cell?_setCell_same _ _ _ (by rw [World.cell?_setCell_other _ _ _ _ (off_ne (by omega))]; exact h1)
  · rw [World.cell?_setCell_other _ _ _ _ (off_ne (by omega)), World.cell?_setCell_other _ _ _ _ (off_ne (by omega))]
    exact World.cell?_setCell_same _ _ _ (by rw [World.cell?_setCell_other _ _ _ _ (off_ne (by omega)), World.cell?_setCell_other _ _ _ _ (off_ne (by omega))]; exact h2)
  · rw [World.cell?_setCell_other _ _ _ _ (off_ne (by omega))]
    exact World.cell?_setCell_same _ _ _ (by rw [World.cell?_setCell_other _ _ _ _ (off_ne (by omega)), World.cell?_setCell_other _ _ _ _ (off_ne (by omega)), World.cell?_setCell_other _ _ _ _ (off_ne (by omega))]; exact h3)
  · exact World.cell?_setCell_same _ _ _ (by rw [World.cell?_setCell_other _ _ _ _ (off_ne (by omega)), World.cell?_setCell_other _ _ _ _ (off_ne (by omega)), World.cell?_setCell_other _ _ _ _ (off_ne (by omega)), World.cell?_setCell_other _ _ _ _ (off_ne (by omega))]; exact h4)
theorem set5_block (W : World) (g k : Nat) (a b c d e : Value) (j : Nat) (h : j ≠ g) : (set5 W g k a b c d e).heap[j]? = W.heap[j]? := by
  unfold set5
  rw [Below.heap_setCell _ _ _ _ (by simpa using h), Below.heap_setCell _ _ _ _ (by simpa using h), Below.heap_setCell _ _ _ _ (by simpa using h), Below.heap_setCell _ _ _ _ (by simpa using h), Below.heap_setCell _ _ _ _ (by simpa using h)]
theorem set5_frozen (W : World) (g k : Nat) (a b c d e : Value) (p : Addr) : (set5 W g k a b c d e).frozen? p = W.frozen? p := by
  unfold set5; simp only [World.frozen?_setCell]
theorem set5_size (W : World) (g k : Nat) (a b c d e : Value) : (set5 W g k a b c d e).heap.size = W.heap.size := by
  unfold set5; simp
theorem set5_below {B : Nat} {w W : World} (h : Below B w W) (g k : Nat) (a b c d e : Value) (hg : B ≤ g) : Below B w (set5 W g k a b c d e) := by
  unfold set5
  exact ((((h.setCell (p := ⟨g, k * 5, none⟩) hg _).setCell (p := ⟨g, k * 5 + 1, none⟩) hg _).setCell (p := ⟨g, k * 5 + 2, none⟩) hg _).setCell (p := ⟨g, k * 5 + 3, none⟩) hg _).setCell (p := ⟨g, k * 5 + 4, none⟩) hg _

/-- the row in block g of the copy, k elements of l being done -/
def ECopy (W : World) (g d k : Nat) (l : List Ex) : Prop := g < W.heap.size ∧ (∀ j, W.frozen? ⟨g, j, none⟩ = false) ∧ (∀ i, i < l.length → ∃ a b c d e, Cell5 W g i a b c d e) ∧
  ∀ i, i < k → ∃ kv tv, Cell5 W g i (.int .i64 (l.getD i E0).kind) (.int .i64 (l.getD i E0).num) (.string (l.getD i E0).meter) kv tv ∧ ((l.getD i E0).meter.size ≤ maxLen ∧ (l.getD i E0).tiers.length ≤ maxLen) ∧ ES (g + 1) W.heap.size W d kv (l.getD i E0).kids ∧ TL (g + 1) W.heap.size W tv (l.getD i E0).tiers

theorem ECopy.kept {W W' : World} {g d k : Nat} {l : List Ex} (h : ECopy W g d k l) (hb : Below W.heap.size W W') : ECopy W' g d k l := by
  obtain ⟨h1, h2, h3, h4⟩ := h
  have hg := hb.block g h1
  refine ⟨Nat.lt_of_lt_of_le h1 hb.size, fun j => (hb.frozen (p := ⟨g, j, none⟩) h1).trans (h2 j), fun i hi => ?_, fun i hi => ?_⟩
  · obtain ⟨a, b, c, d, e, h⟩ := h3 i hi
    exact ⟨a, b, c, d, e, cell5_kept h hg⟩
  · obtain ⟨kv, tv, hc, hz, hk, ht⟩ := h4 i hi
    exact ⟨kv, tv, cell5_kept hc hg, hz, (hk.kept (same_below hb (Nat.le_refl _))).mono (Nat.le_refl _) hb.size, (ht.kept (same_below hb (Nat.le_refl _))).mono (Nat.le_refl _) hb.size⟩

theorem ECopy.step {W : World} {g d k : Nat} {l : List Ex} {kv tv : Value} (h : ECopy W g d k l) (hk : k < l.length) (hz : (l.getD k E0).meter.size ≤ maxLen ∧ (l.getD k E0).tiers.length ≤ maxLen)
    (hK : ES (g + 1) W.heap.size W d kv (l.getD k E0).kids) (hT : TL (g + 1) W.heap.size W tv (l.getD k E0).tiers) :
    ECopy (set5 W g k (.int .i64 (l.getD k E0).kind) (.int .i64 (l.getD k E0).num) (.string (l.getD k E0).meter) kv tv) g d (k + 1) l := by
  obtain ⟨h1, h2, h3, h4⟩ := h
  have hs : Same (g + 1) W.heap.size W (set5 W g k (.int .i64 (l.getD k E0).kind) (.int .i64 (l.getD k E0).num) (.string (l.getD k E0).meter) kv tv) := fun j hj _ => set5_block _ _ _ _ _ _ _ _ j (by omega)
  refine ⟨by rw [set5_size]; exact h1, fun j => by rw [set5_frozen]; exact h2 j, fun i hi => ?_, fun i hi => ?_⟩
  · by_cases e : i = k
    · subst e
      obtain ⟨a, b, c, d, e, h⟩ := h3 i hi
      exact ⟨_, _, _, _, _, set5_at h⟩
    · obtain ⟨a, b, c, d, e', h⟩ := h3 i hi
      exact ⟨a, b, c, d, e', set5_other h e⟩
  · rw [set5_size]
    by_cases e : i = k
    · subst e
      obtain ⟨a, b, c, d, e, h⟩ := h3 i hk
      exact ⟨kv, tv, set5_at h, hz, hK.kept hs, hT.kept hs⟩
    · obtain ⟨kv', tv', hc, hz', hk', ht'⟩ := h4 i (by omega)
      exact ⟨kv', tv', set5_other hc e, hz', hk'.kept hs, ht'.kept hs⟩
theorem ECopy.done {W : World} {g d : Nat} {l : List Ex} (h : ECopy W g d l.length l) (hl : l.length ≤ maxLen) (cap : Nat) : ES g W.heap.size W (d + 1) (.slice (some ⟨g, 0, none⟩) l.length cap) l := by
  obtain ⟨h1, h2, h3, h4⟩ := h
  refine .inr ⟨g, 0, cap, rfl, hl, Nat.le_refl _, h1, fun i hi => ?_⟩
  obtain ⟨kv, tv, hc, hz, hk, ht⟩ := h4 i hi
  exact ⟨kv, tv, by simpa [Cell5] using hc, hz, hk.mono (by omega) (Nat.le_refl _), ht.mono (by omega) (Nat.le_refl _)⟩

theorem infoE : (Try.prog.info? 26).map (fun i => (i.zero, i.size, i.bytes)) = some (some (.agg #[.int .i64 0, .int .i64 0, .string ByteArray.empty, .slice none 0 0, .slice none 0 0]), 5, 80) := by kernel_rfl
def zero5 : Array Value := #[.int .i64 0, .int .i64 0, .string ByteArray.empty, .slice none 0 0, .slice none 0 0]
theorem makeE (n : Nat) (hn : n ≤ 1048576) (w : World) : (Instr.makeSlice 23 (.int .i64 (n : Int)) (.int .i64 (n : Int))).run Try.prog w = .ok (.slice (some ⟨w.heap.size, 0, none⟩) n n) (w.alloc (.cells (madeCells zero5 (n * 5)) 26)) := by
  obtain ⟨i, hi, h2⟩ := Option.map_eq_some_iff.1 infoE
  simp only [Prod.mk.injEq] at h2
  obtain ⟨hz, hs, hb⟩ := h2
  have := run_make (P := Try.prog) w 23 26 i _ Try.underlying23 hi hz .i64 .i64 n n (by omega) (by omega) (by rw [hb]; omega) (by omega)
  have e : (Value.agg #[.int .i64 0, .int .i64 0, .string ByteArray.empty, .slice none 0 0, .slice none 0 0]).cells = zero5 := rfl
  rw [hs, e] at this
  simpa using this
theorem ECopy.made (w : World) (l : List Ex) (d : Nat) (t : TypeId) : ECopy (w.alloc (.cells (madeCells zero5 (l.length * 5)) t)) w.heap.size d 0 l := by
  have e1 := (MapKept.heap_alloc w (.cells (madeCells zero5 (l.length * 5)) t)).1
  have hcell : ∀ x, x < l.length * 5 → ∃ v, (w.alloc (.cells (madeCells zero5 (l.length * 5)) t)).cell? ⟨w.heap.size, x, none⟩ = some v := fun x hx => by
    simp only [World.cell?]
    rw [e1]
    refine ⟨(madeCells zero5 (l.length * 5))[x]'(by rw [size_madeCells]; exact hx), ?_⟩
    simp [size_madeCells, hx]
  refine ⟨by simp, fun j => ?_, fun i hi => ?_, fun i hi => by omega⟩
  · simp only [World.frozen?]
    rw [e1]; simp
  · obtain ⟨a, ha⟩ := hcell (i * 5) (by omega)
    obtain ⟨b, hb⟩ := hcell (i * 5 + 1) (by omega)
    obtain ⟨c, hc⟩ := hcell (i * 5 + 2) (by omega)
    obtain ⟨d, hd⟩ := hcell (i * 5 + 3) (by omega)
    obtain ⟨e, he⟩ := hcell (i * 5 + 4) (by omega)
    exact ⟨a, b, c, d, e, ha, hb, hc, hd, he⟩
end Go.Proofs.Ytdpefmjlmpjjbaa.Rule
