/-
  Texts of this proof laid together, in build order; each says of itself what it holds.
-/
import Derived.Test.YtnchgeiinkaefaaGreatDoorZac
import Derived.Test.YtnchgeiinkaefaaGreatDoorProg
import Derived.WalkKit
import Derived.WalkLawsBesides
import Derived.Below
import Derived.Deep.QuietTactic
import Derived.BigQuiet
import Derived.Deep.OwnRows
import Derived.WalkMore
import Derived.Outline
import Derived.Deep.RegionHeld3
import Derived.Lib.Strings
section
/-
  Expressions in memory: the copy.
-/
namespace Go.Proofs.YtnchgeiinkaefaaGreatDoor.Rule
set_option linter.unusedVariables false
open Go.RowKit Tiers


/-! ### the copy of expressions -/

/-- element i of the row in block g, whose cells are not frozen: five cells -/
def Cell5 (W : World) (g i : Nat) (a b c d e : Value) : Prop := W.cell? ⟨g, i * 5, none⟩ = some a ∧ W.cell? ⟨g, i * 5 + 1, none⟩ = some b ∧ W.cell? ⟨g, i * 5 + 2, none⟩ = some c ∧ W.cell? ⟨g, i * 5 + 3, none⟩ = some d ∧ W.cell? ⟨g, i * 5 + 4, none⟩ = some e
/-- the world with element k of the row in block g turned -/
def set5 (W : World) (g k : Nat) (a b c d e : Value) : World := ((((W.setCell ⟨g, k * 5, none⟩ a).setCell ⟨g, k * 5 + 1, none⟩ b).setCell ⟨g, k * 5 + 2, none⟩ c).setCell ⟨g, k * 5 + 3, none⟩ d).setCell ⟨g, k * 5 + 4, none⟩ e

theorem cell5_kept {W W' : World} {g i : Nat} {a b c d e : Value} (h : Cell5 W g i a b c d e) (hb : W'.heap[g]? = W.heap[g]?) : Cell5 W' g i a b c d e :=
  ⟨(World.cell?_of_block (w := W) hb).trans h.1, (World.cell?_of_block (w := W) hb).trans h.2.1, (World.cell?_of_block (w := W) hb).trans h.2.2.1, (World.cell?_of_block (w := W) hb).trans h.2.2.2.1, (World.cell?_of_block (w := W) hb).trans h.2.2.2.2⟩
theorem off_ne {g x y : Nat} (h : x ≠ y) : (⟨g, x, none⟩ : Addr) ≠ ⟨g, y, none⟩ := fun e => h (congrArg Addr.off e)
theorem set5_far {W : World} {g k x : Nat} {a b c d e : Value} (h : x < k * 5 ∨ k * 5 + 5 ≤ x) : (set5 W g k a b c d e).cell? ⟨g, x, none⟩ = W.cell? ⟨g, x, none⟩ := by
  unfold set5
  rw [World.cell?_setCell_other _ _ _ _ (off_ne (by omega)), World.cell?_setCell_other _ _ _ _ (off_ne (by omega)), World.cell?_setCell_other _ _ _ _ (off_ne (by omega)), World.cell?_setCell_other _ _ _ _ (off_ne (by omega)), World.cell?_setCell_other _ _ _ _ (off_ne (by omega))]
theorem set5_other {W : World} {g k i : Nat} {a b c d e a' b' c' d' e' : Value} (h : Cell5 W g i a b c d e) (hi : i ≠ k) : Cell5 (set5 W g k a' b' c' d' e') g i a b c d e :=
  ⟨(set5_far (by omega)).trans h.1, (set5_far (by omega)).trans h.2.1, (set5_far (by omega)).trans h.2.2.1, (set5_far (by omega)).trans h.2.2.2.1, (set5_far (by omega)).trans h.2.2.2.2⟩
theorem set5_at {W : World} {g k : Nat} {a b c d e a' b' c' d' e' : Value} (h : Cell5 W g k a b c d e) : Cell5 (set5 W g k a' b' c' d' e') g k a' b' c' d' e' := by
  obtain ⟨h0, h1, h2, h3, h4⟩ := h
  unfold Cell5 set5
  refine ⟨?_, ?_, ?_, ?_, ?_⟩
  · rw [World.cell?_setCell_other _ _ _ _ (off_ne (by omega)), World.cell?_setCell_other _ _ _ _ (off_ne (by omega)), World.cell?_setCell_other _ _ _ _ (off_ne (by omega)), World.cell?_setCell_other _ _ _ _ (off_ne (by omega))]
    exact World.cell?_setCell_same _ _ _ h0
  · rw [World.cell?_setCell_other _ _ _ _ (off_ne (by omega)), World.cell?_setCell_other _ _ _ _ (off_ne (by omega)), World.cell?_setCell_other _ _ _ _ (off_ne (by omega))]
    exact World.cell?_setCell_same _ _ _ (by rw [World.cell?_setCell_other _ _ _ _ (off_ne (by omega))]; exact h1)
  · rw [World.cell?_setCell_other _ _ _ _ (off_ne (by omega)), World.cell?_setCell_other _ _ _ _ (off_ne (by omega))]
    exact World.cell?_setCell_same _ _ _ (by rw [World.cell?_setCell_other _ _ _ _ (off_ne (by omega)), World.cell?_setCell_other _ _ _ _ (off_ne (by omega))]; exact h2)
  · rw [World.cell?_setCell_other _ _ _ _ (off_ne (by omega))]
    exact World.cell?_setCell_same _ _ _ (by rw [World.cell?_setCell_other _ _ _ _ (off_ne (by omega)), World.cell?_setCell_other _ _ _ _ (off_ne (by omega)), World.cell?_setCell_other _ _ _ _ (off_ne (by omega))]; exact h3)
  · exact World.cell?_setCell_same _ _ _ (by rw [World.cell?_setCell_other _ _ _ _ (off_ne (by omega)), World.cell?_setCell_other _ _ _ _ (off_ne (by omega)), World.cell?_setCell_other _ _ _ _ (off_ne (by omega)), World.cell?_setCell_other _ _ _ _ (off_ne (by omega))]; exact h4)
theorem set5_block (W : World) (g k : Nat) (a b c d e : Value) (j : Nat) (h : j ≠ g) : (set5 W g k a b c d e).heap[j]? = W.heap[j]? := by
  unfold set5
  rw [Below.heap_setCell _ _ _ _ (by simpa using h), Below.heap_setCell _ _ _ _ (by simpa using h), Below.heap_setCell _ _ _ _ (by simpa using h), Below.heap_setCell _ _ _ _ (by simpa using h), Below.heap_setCell _ _ _ _ (by simpa using h)]
theorem set5_frozen (W : World) (g k : Nat) (a b c d e : Value) (p : Addr) : (set5 W g k a b c d e).frozen? p = W.frozen? p := by
  unfold set5; simp only [World.frozen?_setCell]
theorem set5_size (W : World) (g k : Nat) (a b c d e : Value) : (set5 W g k a b c d e).heap.size = W.heap.size := by
  unfold set5; simp
/-- the row in block g of the copy, k elements of l being done -/
def ECopy (W : World) (g d k : Nat) (l : List Ex) : Prop := g < W.heap.size ∧ (∀ j, W.frozen? ⟨g, j, none⟩ = false) ∧ (∀ i, i < l.length → ∃ a b c d e, Cell5 W g i a b c d e) ∧
  ∀ i, i < k → ∃ kv tv, Cell5 W g i (.int .i64 (l.getD i E0).kind) (.int .i64 (l.getD i E0).num) (.string (l.getD i E0).meter) kv tv ∧ ((l.getD i E0).meter.size ≤ maxLen ∧ (l.getD i E0).tiers.length ≤ maxLen) ∧ ES (g + 1) W.heap.size W d kv (l.getD i E0).kids ∧ TL (g + 1) W.heap.size W tv (l.getD i E0).tiers

theorem ECopy.kept {W W' : World} {g d k : Nat} {l : List Ex} (h : ECopy W g d k l) (hb : Below W.heap.size W W') : ECopy W' g d k l := by
  obtain ⟨h1, h2, h3, h4⟩ := h
  have hg := hb.block g h1
  refine ⟨Nat.lt_of_lt_of_le h1 hb.size, fun j => (hb.frozen (p := ⟨g, j, none⟩) h1).trans (h2 j), fun i hi => ?_, fun i hi => ?_⟩
  · obtain ⟨a, b, c, d, e, h⟩ := h3 i hi
    exact ⟨a, b, c, d, e, cell5_kept h hg⟩
  · obtain ⟨kv, tv, hc, hz, hk, ht⟩ := h4 i hi
    exact ⟨kv, tv, cell5_kept hc hg, hz, (hk.kept (same_below hb (Nat.le_refl _))).mono (Nat.le_refl _) hb.size, (ht.kept (same_below hb (Nat.le_refl _))).mono (Nat.le_refl _) hb.size⟩

theorem ECopy.step {W : World} {g d k : Nat} {l : List Ex} {kv tv : Value} (h : ECopy W g d k l) (hk : k < l.length) (hz : (l.getD k E0).meter.size ≤ maxLen ∧ (l.getD k E0).tiers.length ≤ maxLen)
    (hK : ES (g + 1) W.heap.size W d kv (l.getD k E0).kids) (hT : TL (g + 1) W.heap.size W tv (l.getD k E0).tiers) :
    ECopy (set5 W g k (.int .i64 (l.getD k E0).kind) (.int .i64 (l.getD k E0).num) (.string (l.getD k E0).meter) kv tv) g d (k + 1) l := by
  obtain ⟨h1, h2, h3, h4⟩ := h
  have hs : Same (g + 1) W.heap.size W (set5 W g k (.int .i64 (l.getD k E0).kind) (.int .i64 (l.getD k E0).num) (.string (l.getD k E0).meter) kv tv) := fun j hj _ => set5_block _ _ _ _ _ _ _ _ j (by omega)
  refine ⟨by rw [set5_size]; exact h1, fun j => by rw [set5_frozen]; exact h2 j, fun i hi => ?_, fun i hi => ?_⟩
  · by_cases e : i = k
    · subst e
      obtain ⟨a, b, c, d, e, h⟩ := h3 i hi
      exact ⟨_, _, _, _, _, set5_at h⟩
    · obtain ⟨a, b, c, d, e', h⟩ := h3 i hi
      exact ⟨a, b, c, d, e', set5_other h e⟩
  · rw [set5_size]
    by_cases e : i = k
    · subst e
      obtain ⟨a, b, c, d, e, h⟩ := h3 i hk
      exact ⟨kv, tv, set5_at h, hz, hK.kept hs, hT.kept hs⟩
    · obtain ⟨kv', tv', hc, hz', hk', ht'⟩ := h4 i (by omega)
      exact ⟨kv', tv', set5_other hc e, hz', hk'.kept hs, ht'.kept hs⟩
theorem ECopy.done {W : World} {g d : Nat} {l : List Ex} (h : ECopy W g d l.length l) (hl : l.length ≤ maxLen) (cap : Nat) : ES g W.heap.size W (d + 1) (.slice (some ⟨g, 0, none⟩) l.length cap) l := by
  obtain ⟨h1, h2, h3, h4⟩ := h
  refine .inr ⟨g, 0, cap, rfl, hl, Nat.le_refl _, h1, fun i hi => ?_⟩
  obtain ⟨kv, tv, hc, hz, hk, ht⟩ := h4 i hi
  exact ⟨kv, tv, by simpa [Cell5] using hc, hz, hk.mono (by omega) (Nat.le_refl _), ht.mono (by omega) (Nat.le_refl _)⟩

theorem infoE : (Tryz.prog.info? 77).map (fun i => (i.zero, i.size, i.bytes)) = some (some (.agg #[.int .i64 0, .int .i64 0, .string ByteArray.empty, .slice none 0 0, .slice none 0 0]), 5, 80) := by kernel_rfl
def zero5 : Array Value := #[.int .i64 0, .int .i64 0, .string ByteArray.empty, .slice none 0 0, .slice none 0 0]
theorem makeE (n : Nat) (hn : n ≤ 1048576) (w : World) : (Instr.makeSlice 74 (.int .i64 (n : Int)) (.int .i64 (n : Int))).run Tryz.prog w = .ok (.slice (some ⟨w.heap.size, 0, none⟩) n n) (w.alloc (.cells (madeCells zero5 (n * 5)) 77)) := by
  obtain ⟨i, hi, h2⟩ := Option.map_eq_some_iff.1 infoE
  simp only [Prod.mk.injEq] at h2
  obtain ⟨hz, hs, hb⟩ := h2
  have := run_make (P := Tryz.prog) w 74 77 i _ Tryz.underlying74 hi hz .i64 .i64 n n (by omega) (by omega) (by rw [hb]; omega) (by omega)
  have e : (Value.agg #[.int .i64 0, .int .i64 0, .string ByteArray.empty, .slice none 0 0, .slice none 0 0]).cells = zero5 := rfl
  rw [hs, e] at this
  simpa using this
theorem ECopy.made (w : World) (l : List Ex) (d : Nat) (t : TypeId) : ECopy (w.alloc (.cells (madeCells zero5 (l.length * 5)) t)) w.heap.size d 0 l := by
  have e1 := (MapKept.heap_alloc w (.cells (madeCells zero5 (l.length * 5)) t)).1
  have hcell : ∀ x, x < l.length * 5 → ∃ v, (w.alloc (.cells (madeCells zero5 (l.length * 5)) t)).cell? ⟨w.heap.size, x, none⟩ = some v := fun x hx => by
    simp only [World.cell?]
    rw [e1]
    refine ⟨(madeCells zero5 (l.length * 5))[x]'(by rw [size_madeCells]; exact hx), ?_⟩
    simp [size_madeCells, hx]
  refine ⟨by simp, fun j => ?_, fun i hi => ?_, fun i hi => by omega⟩
  · simp only [World.frozen?]
    rw [e1]; simp
  · obtain ⟨a, ha⟩ := hcell (i * 5) (by omega)
    obtain ⟨b, hb⟩ := hcell (i * 5 + 1) (by omega)
    obtain ⟨c, hc⟩ := hcell (i * 5 + 2) (by omega)
    obtain ⟨d, hd⟩ := hcell (i * 5 + 3) (by omega)
    obtain ⟨e, he⟩ := hcell (i * 5 + 4) (by omega)
    exact ⟨a, b, c, d, e, ha, hb, hc, hd, he⟩
end Go.Proofs.YtnchgeiinkaefaaGreatDoor.Rule
end

section
/-
  toRuleExpr, toRuleExprS; eqRuleExpr, eqRuleExprS.
-/
namespace Go.Proofs.YtnchgeiinkaefaaGreatDoor.Rule
set_option linter.unusedVariables false
open Go.RowKit Tiers

/-- five cells of block b, none of them frozen -/
def At5 (W : World) (B : Nat) (a b c d e : Value) : Prop := (W.cell? ⟨B, 0, none⟩ = some a ∧ W.cell? ⟨B, 1, none⟩ = some b ∧ W.cell? ⟨B, 2, none⟩ = some c ∧ W.cell? ⟨B, 3, none⟩ = some d ∧ W.cell? ⟨B, 4, none⟩ = some e) ∧
  W.frozen? ⟨B, 0, none⟩ = false ∧ W.frozen? ⟨B, 1, none⟩ = false ∧ W.frozen? ⟨B, 2, none⟩ = false ∧ W.frozen? ⟨B, 3, none⟩ = false ∧ W.frozen? ⟨B, 4, none⟩ = false
theorem At5.kept {W W' : World} {B : Nat} {a b c d e : Value} (h : At5 W B a b c d e) (hb : W'.heap[B]? = W.heap[B]?) : At5 W' B a b c d e := by
  obtain ⟨⟨h0, h1, h2, h3, h4⟩, f0, f1, f2, f3, f4⟩ := h
  exact ⟨⟨(World.cell?_of_block (w := W) hb).trans h0, (World.cell?_of_block (w := W) hb).trans h1, (World.cell?_of_block (w := W) hb).trans h2, (World.cell?_of_block (w := W) hb).trans h3, (World.cell?_of_block (w := W) hb).trans h4⟩,
    (World.frozen?_of_block (w := W) hb).trans f0, (World.frozen?_of_block (w := W) hb).trans f1, (World.frozen?_of_block (w := W) hb).trans f2, (World.frozen?_of_block (w := W) hb).trans f3, (World.frozen?_of_block (w := W) hb).trans f4⟩
theorem At5.new (w : World) (a b c d e : Value) (t : TypeId) : At5 (w.alloc (.cells #[a, b, c, d, e] t)) w.heap.size a b c d e := by
  have e1 := (MapKept.heap_alloc w (.cells #[a, b, c, d, e] t)).1
  unfold At5
  simp only [World.cell?, World.frozen?]
  rw [e1]; simp
theorem At5.lt {W : World} {B : Nat} {a b c d e : Value} (h : At5 W B a b c d e) : B < W.heap.size := lt_of_cell h.1.1

theorem wtL_len (l : List Ex) : l.length ≤ wtL l := by rw [wtL_eq]; omega

end Go.Proofs.YtnchgeiinkaefaaGreatDoor.Rule
end

section
/-
  Steps that are right (spec.l2Tiers, impl.stepsRight).
-/
namespace Go.Proofs.YtnchgeiinkaefaaGreatDoor.Tiers
set_option linter.unusedVariables false
open Go.RowKit

def numB (x : Int) : Bool := decide (0 ≤ x ∧ x ≤ 1000000000)
/-- is step i of n right? -/
def okT (n i : Nat) (t : T) : Bool := (decide (i + 1 = n) == decide (t.1 = 0)) && numB t.1 && numB t.2
/-- are the steps right? -/
def rightB (l : List T) : Bool := decide (1 ≤ l.length ∧ l.length ≤ 6) && (List.range l.length).all fun i => okT l.length i (l.getD i T0)

theorem rightB_size {l : List T} (h : ¬ (1 ≤ l.length ∧ l.length ≤ 6)) : rightB l = false := by unfold rightB; rw [decide_eq_false h]; simp
theorem rightB_bad {l : List T} {k : Nat} (hk : k < l.length) (h : okT l.length k (l.getD k T0) = false) : rightB l = false := by
  have : ((List.range l.length).all fun i => okT l.length i (l.getD i T0)) = false := by
    rw [List.all_eq_false]
    exact ⟨k, List.mem_range.2 hk, by rw [h]; simp⟩
  unfold rightB; rw [this]; simp
theorem rightB_yes {l : List T} (h : 1 ≤ l.length ∧ l.length ≤ 6) (hd : ∀ i, i < l.length → okT l.length i (l.getD i T0) = true) : rightB l = true := by
  have : ((List.range l.length).all fun i => okT l.length i (l.getD i T0)) = true := by
    rw [List.all_eq_true]
    exact fun i hi => hd i (List.mem_range.1 hi)
  unfold rightB; rw [this, decide_eq_true h]; rfl
theorem rightB_len {l : List T} (h : rightB l = true) : 1 ≤ l.length ∧ l.length ≤ 6 := by
  by_cases h' : 1 ≤ l.length ∧ l.length ≤ 6
  · exact h'
  · rw [rightB_size h'] at h; cases h
theorem rightB_at {l : List T} (h : rightB l = true) {k : Nat} (hk : k < l.length) : okT l.length k (l.getD k T0) = true := by
  cases e : okT l.length k (l.getD k T0)
  · rw [rightB_bad hk e] at h; cases h
  · rfl
theorem okT_of {n i : Nat} {t : T} (h : okT n i t = true) : (i + 1 = n ↔ t.1 = 0) ∧ 0 ≤ t.1 ∧ t.1 ≤ 1000000000 ∧ 0 ≤ t.2 ∧ t.2 ≤ 1000000000 := by
  unfold okT numB at h
  simp only [Bool.and_eq_true, beq_iff_eq, decide_eq_decide, decide_eq_true_eq] at h
  exact ⟨h.1.1, h.1.2.1, h.1.2.2, h.2.1, h.2.2⟩
theorem okT_mk {n i : Nat} {t : T} (h : (i + 1 = n ↔ t.1 = 0) ∧ 0 ≤ t.1 ∧ t.1 ≤ 1000000000 ∧ 0 ≤ t.2 ∧ t.2 ≤ 1000000000) : okT n i t = true := by
  unfold okT numB
  simp only [Bool.and_eq_true, beq_iff_eq, decide_eq_decide, decide_eq_true_eq]
  exact ⟨⟨h.1, h.2.1, h.2.2.1⟩, h.2.2.2.1, h.2.2.2.2⟩

set_option maxHeartbeats 2000000 in
/-- spec.l2Tiers -/
theorem rightS (v : Value) (l : List T) (w : World) (h : TR w v l) (hl : l.length ≤ 1048576) :
    Calls Tryz.prog 113 #[v] w fun e w' => e = .returned (.bool (rightB l)) ∧ Below w.heap.size w w' := by
  by_cases hsz : 1 ≤ l.length ∧ l.length ≤ 6
  · rcases h with ⟨rfl, a, c, rfl⟩ | ⟨b, o, cap, rfl, hc⟩
    · simp at hsz
    obtain ⟨z1, z2⟩ := hsz
    have y1 : (1 : Int) ≤ (l.length : Int) := by omega
    have y2 : (l.length : Int) ≤ 6 := by omega
    generalize hr : rightB l = r
    have HR := hide hr
    have HC := hide hc
    clear hr hc
    go_enter Tryz.func113, Tryz.ntmps113
    go_wp2
    go_loop [3] (fun i => ∃ k : Nat, k ≤ l.length ∧ i = .int .i64 k ∧ Hid (∀ j, j < k → okT l.length j (l.getD j T0) = true)) (fun i => l.length - (intOf i).toNat)
    case atStart => exact ⟨0, Nat.zero_le _, rfl, hide (fun j hj => by omega)⟩
    case round =>
      obtain ⟨k, hk, rfl, hd⟩ := hrel
      by_cases hlt : k < l.length
      · obtain ⟨c0, c1⟩ := (unhide HC).2 k hlt
        have i1 : (0 : Int) ≤ (k : Int) := by omega
        have i2 : (k : Int) < (l.length : Int) := by omega
        cases ho : okT l.length k (l.getD k T0)
        · have hr : r = false := (unhide HR).symm.trans (rightB_bad hlt ho)
          subst hr
          have hno := mt okT_mk (by rw [ho]; simp)
          clear ho hd
          generalize (l.getD k T0).1 = x at *
          generalize (l.getD k T0).2 = y at *
          by_cases a1 : k + 1 = l.length
          all_goals by_cases a2 : x = 0
          all_goals by_cases x1 : x < 0
          all_goals by_cases x2 : 1000000000 < x
          all_goals by_cases q1 : y < 0
          all_goals by_cases q2 : 1000000000 < y
          all_goals first | (exfalso; omega) | skip
          all_goals clear hno
          all_goals first | (have b1 : ((k : Int) == (l.length : Int) - 1) = true := beq_iff_eq.2 (by omega)) | (have b1 : ((k : Int) == (l.length : Int) - 1) = false := beq_eq_false_iff_ne.2 (by omega))
          all_goals first | (have b2 : (x == 0) = true := beq_iff_eq.2 (by omega)) | (have b2 : (x == 0) = false := beq_eq_false_iff_ne.2 (by omega))
          all_goals clear a1 a2
          all_goals go_wp2
          all_goals go_ret
          all_goals exact ⟨rfl, Below.refl _ _⟩
        · obtain ⟨o1, o2, o3, o4, o5⟩ := okT_of ho
          have hd' : Hid (∀ j, j < k + 1 → okT l.length j (l.getD j T0) = true) := hide (fun j hj => by
            by_cases e : j < k
            · exact unhide hd j e
            · obtain rfl : j = k := by omega
              exact ho)
          clear ho hd
          generalize (l.getD k T0).1 = x at *
          generalize (l.getD k T0).2 = y at *
          by_cases a1 : k + 1 = l.length
          · have b1 : ((k : Int) == (l.length : Int) - 1) = true := beq_iff_eq.2 (by omega)
            have b2 : (x == 0) = true := beq_iff_eq.2 (o1.1 a1)
            clear a1 o1
            go_wp2
            exact ⟨⟨k + 1, by omega, by go_num, hd'⟩, by simp [intOf]; omega⟩
          · have b1 : ((k : Int) == (l.length : Int) - 1) = false := beq_eq_false_iff_ne.2 (by omega)
            have b2 : (x == 0) = false := beq_eq_false_iff_ne.2 (fun e => a1 (o1.2 e))
            clear a1 o1
            go_wp2
            exact ⟨⟨k + 1, by omega, by go_num, hd'⟩, by simp [intOf]; omega⟩
      · have hr : r = true := (unhide HR).symm.trans (rightB_yes ⟨z1, z2⟩ (fun i hi => unhide hd i (by omega)))
        subst hr
        go_wp2
        go_ret
        exact ⟨rfl, Below.refl _ _⟩
  · rw [rightB_size hsz]
    have e1 : ∃ a c, v = .slice a l.length c := by
      rcases h with ⟨rfl, a, c, rfl⟩ | ⟨b, o, cap, rfl, _⟩
      · exact ⟨_, _, rfl⟩
      · exact ⟨_, _, rfl⟩
    obtain ⟨a, c, rfl⟩ := e1
    clear h
    by_cases z1 : (l.length : Int) < 1
    · go_enter Tryz.func113, Tryz.ntmps113
      go_wp2
      go_ret
      exact ⟨rfl, Below.refl _ _⟩
    · have z2 : (6 : Int) < l.length := by omega
      go_enter Tryz.func113, Tryz.ntmps113
      go_wp2
      go_ret
      exact ⟨rfl, Below.refl _ _⟩
end Go.Proofs.YtnchgeiinkaefaaGreatDoor.Tiers
end

section
/-
  Steps that are right (impl.stepsRight).
-/
namespace Go.Proofs.YtnchgeiinkaefaaGreatDoor.Tiers
set_option linter.unusedVariables false
open Go.RowKit

theorem numI (x : Int) (w : World) : Calls Tryz.prog 283 #[.int .i64 x] w fun e w' => e = .returned (.bool (numB x)) ∧ w' = w := by
  by_cases h1 : 0 ≤ x
  · by_cases h2 : x ≤ 1000000000
    · have e : numB x = true := decide_eq_true ⟨h1, h2⟩
      rw [e]; clear e
      go_enter Tryz.func283, Tryz.ntmps283
      go_wp2
      go_ret
      exact ⟨rfl, rfl⟩
    · have e : numB x = false := decide_eq_false (by omega)
      rw [e]; clear e
      go_enter Tryz.func283, Tryz.ntmps283
      go_wp2
      go_ret
      exact ⟨rfl, rfl⟩
  · have e : numB x = false := decide_eq_false (by omega)
    rw [e]; clear e
    go_enter Tryz.func283, Tryz.ntmps283
    go_wp2
    go_ret
    exact ⟨rfl, rfl⟩

set_option maxHeartbeats 2000000 in
/-- impl.stepsRight -/
theorem rightI (v : Value) (l : List T) (w : World) (h : TR w v l) (hl : l.length ≤ 1048576) :
    Calls Tryz.prog 281 #[v] w fun e w' => e = .returned (.bool (rightB l)) ∧ Below w.heap.size w w' := by
  by_cases hsz : 1 ≤ l.length ∧ l.length ≤ 6
  · rcases h with ⟨rfl, a, c, rfl⟩ | ⟨b, o, cap, rfl, hc⟩
    · simp at hsz
    obtain ⟨z1, z2⟩ := hsz
    have y1 : (1 : Int) ≤ (l.length : Int) := by omega
    have y2 : (l.length : Int) ≤ 6 := by omega
    generalize hr : rightB l = r
    have HR := hide hr
    have HC := hide hc
    clear hr hc
    go_enter Tryz.func281, Tryz.ntmps281
    go_wp2
    go_loopw [16] (fun i wr => ∃ k : Nat, k ≤ l.length ∧ i = .int .i64 k ∧ Hid (∀ j, j < k → okT l.length j (l.getD j T0) = true) ∧ Hid (Below w.heap.size w wr)) (fun i _ => l.length - (intOf i).toNat)
    case atStart => exact ⟨0, Nat.zero_le _, rfl, hide (fun j hj => by omega), hide (Below.refl _ _)⟩
    case round =>
      obtain ⟨k, hk, rfl, hd, hb⟩ := hrel
      by_cases hlt : k < l.length
      · obtain ⟨c0, c1⟩ := ((unhide HC).kept (unhide hb)).2 k hlt
        have i1 : (0 : Int) ≤ (k : Int) := by omega
        have i2 : (k : Int) < (l.length : Int) := by omega
        have HB : Hid (∀ o, Below w.heap.size w (wr.alloc o)) := hide (fun o => (unhide hb).alloc (unhide hb).size o)
        cases ho : okT l.length k (l.getD k T0)
        · have hr : r = false := (unhide HR).symm.trans (rightB_bad hlt ho)
          subst hr
          have hno := mt okT_mk (by rw [ho]; simp)
          clear ho hd
          generalize (l.getD k T0).1 = x at *
          generalize (l.getD k T0).2 = y at *
          by_cases a1 : k + 1 = l.length
          all_goals by_cases a2 : x = 0
          all_goals by_cases x1 : 0 ≤ x ∧ x ≤ 1000000000
          all_goals by_cases q1 : 0 ≤ y ∧ y ≤ 1000000000
          all_goals first | (exfalso; omega) | skip
          all_goals clear hno
          all_goals first | (have b1 : ((k : Int) == (l.length : Int) - 1) = true := beq_iff_eq.2 (by omega)) | (have b1 : ((k : Int) == (l.length : Int) - 1) = false := beq_eq_false_iff_ne.2 (by omega))
          all_goals first | (have b2 : (x == 0) = true := beq_iff_eq.2 (by omega)) | (have b2 : (x == 0) = false := beq_eq_false_iff_ne.2 (by omega))
          all_goals first | (have b3 : numB x = true := decide_eq_true x1) | (have b3 : numB x = false := decide_eq_false x1)
          all_goals first | (have b4 : numB y = true := decide_eq_true q1) | (have b4 : numB y = false := decide_eq_false q1)
          all_goals clear a1 a2 x1 q1
          all_goals go_wp2_with (go_at_call 283; refine (numI _ _).mono ?_; rintro e w1 ⟨rfl, rfl⟩)
          all_goals go_ret
          all_goals exact ⟨rfl, unhide HB _⟩
        · obtain ⟨o1, o2, o3, o4, o5⟩ := okT_of ho
          have hd' : Hid (∀ j, j < k + 1 → okT l.length j (l.getD j T0) = true) := hide (fun j hj => by
            by_cases e : j < k
            · exact unhide hd j e
            · obtain rfl : j = k := by omega
              exact ho)
          clear ho hd
          generalize (l.getD k T0).1 = x at *
          generalize (l.getD k T0).2 = y at *
          have b3 : numB x = true := decide_eq_true ⟨o2, o3⟩
          have b4 : numB y = true := decide_eq_true ⟨o4, o5⟩
          by_cases a1 : k + 1 = l.length
          · have b1 : ((k : Int) == (l.length : Int) - 1) = true := beq_iff_eq.2 (by omega)
            have b2 : (x == 0) = true := beq_iff_eq.2 (o1.1 a1)
            clear a1 o1
            go_wp2_with (go_at_call 283; refine (numI _ _).mono ?_; rintro e w1 ⟨rfl, rfl⟩)
            exact ⟨⟨k + 1, by omega, by go_num, hd', hide (unhide HB _)⟩, by simp [intOf]; omega⟩
          · have b1 : ((k : Int) == (l.length : Int) - 1) = false := beq_eq_false_iff_ne.2 (by omega)
            have b2 : (x == 0) = false := beq_eq_false_iff_ne.2 (fun e => a1 (o1.2 e))
            clear a1 o1
            go_wp2_with (go_at_call 283; refine (numI _ _).mono ?_; rintro e w1 ⟨rfl, rfl⟩)
            exact ⟨⟨k + 1, by omega, by go_num, hd', hide (unhide HB _)⟩, by simp [intOf]; omega⟩
      · have hr : r = true := (unhide HR).symm.trans (rightB_yes ⟨z1, z2⟩ (fun i hi => unhide hd i (by omega)))
        subst hr
        go_wp2
        go_ret
        exact ⟨rfl, unhide hb⟩
  · rw [rightB_size hsz]
    have e1 : ∃ a c, v = .slice a l.length c := by
      rcases h with ⟨rfl, a, c, rfl⟩ | ⟨b, o, cap, rfl, _⟩
      · exact ⟨_, _, rfl⟩
      · exact ⟨_, _, rfl⟩
    obtain ⟨a, c, rfl⟩ := e1
    clear h
    by_cases z1 : (l.length : Int) < 1
    · go_enter Tryz.func281, Tryz.ntmps281
      go_wp2
      go_ret
      exact ⟨rfl, Below.refl _ _⟩
    · have z2 : (6 : Int) < l.length := by omega
      go_enter Tryz.func281, Tryz.ntmps281
      go_wp2
      go_ret
      exact ⟨rfl, Below.refl _ _⟩
end Go.Proofs.YtnchgeiinkaefaaGreatDoor.Tiers
end

section
/-
  eqRuleExpr, eqRuleExprS, of one and the same expression in two places.
-/
namespace Go.Proofs.YtnchgeiinkaefaaGreatDoor.Rule
set_option linter.unusedVariables false
open Go.RowKit Tiers

end Go.Proofs.YtnchgeiinkaefaaGreatDoor.Rule
end

section
/-
  Slices of events (two texts and a number) in memory, and the laws' own helpers on them: size, copy, compare.
-/
namespace Go.Proofs.YtnchgeiinkaefaaGreatDoor.Evs
set_option linter.unusedVariables false
open Go.RowKit

theorem hide {p : Prop} (h : p) : Hid p := h
theorem unhide {p : Prop} (h : Hid p) : p := h

abbrev E := ByteArray × ByteArray × Int
abbrev E0 : E := (ByteArray.empty, ByteArray.empty, 0)
/-- an event as a value -/
abbrev eV (e : E) : Value := .agg #[.string e.1, .string e.2.1, .int .i64 e.2.2]

/-- from o on block b holds the events l -/
def EC (W : World) (b o : Nat) (l : List E) : Prop := b < W.heap.size ∧ ∀ i, i < l.length → W.cell? ⟨b, o + i * 3, none⟩ = some (.string (l.getD i E0).1) ∧ W.cell? ⟨b, o + i * 3 + 1, none⟩ = some (.string (l.getD i E0).2.1) ∧ W.cell? ⟨b, o + i * 3 + 2, none⟩ = some (.int .i64 (l.getD i E0).2.2)

/-- the slice v holds the events l -/
def ER (W : World) (v : Value) (l : List E) : Prop :=
  (l = [] ∧ ∃ a c, v = .slice a 0 c) ∨ ∃ b o cap, v = .slice (some ⟨b, o, none⟩) l.length cap ∧ EC W b o l

theorem EC.kept {W W' : World} {b o : Nat} {l : List E} (h : EC W b o l) (hb : Below W.heap.size W W') : EC W' b o l :=
  ⟨Nat.lt_of_lt_of_le h.1 hb.size, fun i hi => ⟨(hb.cell (p := ⟨b, o + i * 3, none⟩) h.1).trans (h.2 i hi).1, (hb.cell (p := ⟨b, o + i * 3 + 1, none⟩) h.1).trans (h.2 i hi).2.1, (hb.cell (p := ⟨b, o + i * 3 + 2, none⟩) h.1).trans (h.2 i hi).2.2⟩⟩
theorem ER.kept {W W' : World} {v : Value} {l : List E} (h : ER W v l) (hb : Below W.heap.size W W') : ER W' v l := by
  rcases h with h | ⟨b, o, cap, rfl, hc⟩
  · exact .inl h
  · exact .inr ⟨b, o, cap, rfl, hc.kept hb⟩
theorem ER.slice {W : World} {v : Value} {l : List E} (h : ER W v l) : ∃ a c, v = .slice a l.length c := by
  rcases h with ⟨rfl, a, c, rfl⟩ | ⟨b, o, cap, rfl, _⟩
  · exact ⟨_, _, rfl⟩
  · exact ⟨_, _, rfl⟩
theorem below_trans {w w1 w2 : World} (h : Below w.heap.size w w1) (k : Below w1.heap.size w1 w2) : Below w.heap.size w w2 := h.trans (k.mono h.size)

/-- szUseEvent -/
theorem szEv (s m : ByteArray) (q n : Int) (w : World) (hu : s.size ≤ maxLen) (hm : m.size ≤ maxLen) (h0 : 0 ≤ n) (h1 : n ≤ 1048576) :
    Calls Tryz.prog 18 #[.agg #[.string s, .string m, .int .i64 q], .int .i64 n] w fun e w' => ∃ r : Int, e = .returned (.int .i64 r) ∧ -1 ≤ r ∧ r ≤ n ∧ Below w.heap.size w w' := by
  unfold maxLen at hu hm
  by_cases hn : n - s.size < 0
  · go_enter Tryz.func18, Tryz.ntmps18
    go_wp2
    go_ret
    exact ⟨_, rfl, by omega, by omega, (Below.refl _ _).alloc (Nat.le_refl _) _⟩
  by_cases hn2 : n - s.size - m.size < 0
  · go_enter Tryz.func18, Tryz.ntmps18
    go_wp2
    go_ret
    exact ⟨_, rfl, by omega, by omega, (Below.refl _ _).alloc (Nat.le_refl _) _⟩
  · go_enter Tryz.func18, Tryz.ntmps18
    go_wp2
    go_ret
    exact ⟨_, rfl, by omega, by omega, (Below.refl _ _).alloc (Nat.le_refl _) _⟩

/-- szUseEventS -/
theorem szEvs (v : Value) (l : List E) (n : Int) (w : World) (h : ER w v l) (hl : l.length ≤ maxLen) (hs : ∀ u ∈ l, u.1.size ≤ maxLen ∧ u.2.1.size ≤ maxLen) (h0 : 0 ≤ n) (h1 : n ≤ 1048576) :
    Calls Tryz.prog 5 #[v, .int .i64 n] w fun e w' => ∃ r : Int, e = .returned (.int .i64 r) ∧ -1 ≤ r ∧ r ≤ n ∧ (0 ≤ r → l.length ≤ n) ∧ Below w.heap.size w w' := by
  have hs' := hs
  unfold maxLen at hl hs
  by_cases hneg : n - l.length < 0
  · obtain ⟨a, c, rfl⟩ := h.slice
    clear h
    go_enter Tryz.func5, Tryz.ntmps5
    go_wp2
    go_ret
    exact ⟨_, rfl, by omega, by omega, fun h => by omega, Below.refl _ _⟩
  rcases h with ⟨rfl, a, c, rfl⟩ | ⟨b, o, cap, rfl, hc⟩
  · go_enter Tryz.func5, Tryz.ntmps5
    go_wp2
    refine wp_loop_rounds 1 ?_
    rw [rounds_succ]
    go_wp2
    go_ret
    exact ⟨_, rfl, by omega, by omega, fun h => by simpa using h0, Below.refl _ _⟩
  · have HC := hide hc; clear hc
    go_enter Tryz.func5, Tryz.ntmps5
    go_wp2
    go_loopw [1, 5] (fun t i wr => ∃ (k : Nat) (q : Int), k ≤ l.length ∧ i = .int .i64 k ∧ t = .int .i64 q ∧ 0 ≤ q ∧ q ≤ n ∧ Hid (Below w.heap.size w wr)) (fun _ i _ => l.length - (intOf i).toNat)
    case atStart => exact ⟨0, _, by omega, rfl, rfl, by omega, by omega, hide (Below.refl _ _)⟩
    case round =>
      obtain ⟨k, q, hk, rfl, rfl, hq0, hq1, hb⟩ := hrel
      by_cases hlt : k < l.length
      · have hc := ((unhide HC).kept (unhide hb)).2 k hlt
        obtain ⟨c1, c2, c3⟩ := hc
        obtain ⟨hsz, hmz⟩ : (l.getD k E0).1.size ≤ maxLen ∧ (l.getD k E0).2.1.size ≤ maxLen := hs' _ (by simp [List.getD, hlt])
        generalize (l.getD k E0).1 = s at *
        generalize (l.getD k E0).2.1 = m at *
        generalize (l.getD k E0).2.2 = z at *
        go_wp2_with (fail)
        refine (szEv s m z q wr hsz hmz hq0 (by omega)).mono ?_
        rintro e w1 ⟨r, rfl, r1, r2, hb1⟩
        have HB : Hid (Below w.heap.size w w1) := hide (below_trans (unhide hb) hb1)
        clear hb hb1
        by_cases hr : r < 0
        · go_wp2
          go_ret
          exact ⟨_, rfl, by omega, by omega, fun h => by omega, unhide HB⟩
        · go_wp2
          exact ⟨⟨k + 1, r, by omega, by go_num, rfl, by omega, by omega, HB⟩, by simp [intOf]; omega⟩
      · go_wp2
        go_ret
        exact ⟨_, rfl, by omega, by omega, fun h => by omega, unhide hb⟩

/-! ### The copy -/

/-- a row of events of the call's own: block b holds l, nothing of it is frozen -/
def EOwn (W : World) (b : Nat) (l : List E) : Prop := EC W b 0 l ∧ ∀ j, W.frozen? ⟨b, j, none⟩ = false

/-- the slice v holds the events l in a block of its own, not below B -/
def EN (B : Nat) (W : World) (v : Value) (l : List E) : Prop :=
  (l = [] ∧ ∃ a c, v = .slice a 0 c) ∨ ∃ b cap, v = .slice (some ⟨b, 0, none⟩) l.length cap ∧ (B ≤ b ∧ l.length ≤ cap) ∧ EOwn W b l
theorem EN.er {B : Nat} {W : World} {v : Value} {l : List E} (h : EN B W v l) : ER W v l := by
  rcases h with h | ⟨b, cap, rfl, _, hc⟩
  · exact .inl h
  · exact .inr ⟨b, 0, cap, rfl, hc.1⟩

theorem EOwn.set {W : World} {b : Nat} {l : List E} (h : EOwn W b l) {k : Nat} (hk : k < l.length) (x : E) :
    EOwn (((W.setCell ⟨b, 0 + k * 3, none⟩ (.string x.1)).setCell ⟨b, 0 + k * 3 + 1, none⟩ (.string x.2.1)).setCell ⟨b, 0 + k * 3 + 2, none⟩ (.int .i64 x.2.2)) b (l.set k x) := by
  refine ⟨⟨by simpa using h.1.1, fun i hi => ?_⟩, fun j => by simpa [World.frozen?_setCell] using h.2 j⟩
  have hi' : i < l.length := by simpa using hi
  obtain ⟨c0, c1, c2⟩ := h.1.2 i hi'
  by_cases e : i = k
  · subst e
    rw [List.getD_eq_getElem?_getD, List.getElem?_set_self hi']
    refine ⟨?_, ?_, ?_⟩
    · rw [World.cell?_setCell_other _ _ _ _ (by simp), World.cell?_setCell_other _ _ _ _ (by simp)]
      exact World.cell?_setCell_same _ _ _ c0
    · rw [World.cell?_setCell_other _ _ _ _ (by simp)]
      exact World.cell?_setCell_same _ _ _ (by rw [World.cell?_setCell_other _ _ _ _ (by simp)]; exact c1)
    · exact World.cell?_setCell_same _ _ _ (by rw [World.cell?_setCell_other _ _ _ _ (by simp), World.cell?_setCell_other _ _ _ _ (by simp)]; exact c2)
  · have d : ∀ (a b' : Nat), a < 3 → b' < 3 → (⟨b, 0 + k * 3 + b', none⟩ : Addr) ≠ ⟨b, 0 + i * 3 + a, none⟩ := fun a b' ha hb he => by
      simp only [Addr.mk.injEq, and_true, true_and] at he; omega
    have d00 := d 0 0 (by omega) (by omega)
    have d01 := d 0 1 (by omega) (by omega)
    have d02 := d 0 2 (by omega) (by omega)
    have d10 := d 1 0 (by omega) (by omega)
    have d20 := d 2 0 (by omega) (by omega)
    simp only [Nat.add_zero] at d00 d01 d02 d10 d20
    rw [World.cell?_setCell_other _ _ _ _ d02, World.cell?_setCell_other _ _ _ _ d01, World.cell?_setCell_other _ _ _ _ d00, World.cell?_setCell_other _ _ _ _ (d 1 2 (by omega) (by omega)), World.cell?_setCell_other _ _ _ _ (d 1 1 (by omega) (by omega)), World.cell?_setCell_other _ _ _ _ d10, World.cell?_setCell_other _ _ _ _ (d 2 2 (by omega) (by omega)), World.cell?_setCell_other _ _ _ _ (d 2 1 (by omega) (by omega)), World.cell?_setCell_other _ _ _ _ d20, c0, c1, c2, List.getD_eq_getElem?_getD, List.getD_eq_getElem?_getD, List.getElem?_set_ne (by omega)]
    exact ⟨rfl, rfl, rfl⟩

theorem EOwn.kept {W W' : World} {b : Nat} {l : List E} (h : EOwn W b l) (hb : Below W.heap.size W W') : EOwn W' b l :=
  ⟨h.1.kept hb, fun j => (hb.frozen (p := ⟨b, j, none⟩) h.1.1).trans (h.2 j)⟩
theorem EN.kept {B : Nat} {W W' : World} {v : Value} {l : List E} (h : EN B W v l) (hb : Below W.heap.size W W') : EN B W' v l := by
  rcases h with h | ⟨b, cap, rfl, h1, hc⟩
  · exact .inl h
  · exact .inr ⟨b, cap, rfl, h1, hc.kept hb⟩
theorem EN.low {B B' : Nat} {W : World} {v : Value} {l : List E} (h : EN B W v l) (hb : B' ≤ B) : EN B' W v l := by
  rcases h with h | ⟨b, cap, rfl, h1, hc⟩
  · exact .inl h
  · exact .inr ⟨b, cap, rfl, ⟨Nat.le_trans hb h1.1, h1.2⟩, hc⟩

/-- there is room for what it holds -/
def capOk (v : Value) : Prop := ∀ a n c, v = .slice a n c → n ≤ c
theorem EN.cap {B : Nat} {W : World} {v : Value} {l : List E} (h : EN B W v l) : capOk v := by
  intro a n c hv
  rcases h with ⟨_, a', c', rfl⟩ | ⟨b, cap, rfl, h1, _⟩
  · simp only [Value.slice.injEq] at hv; omega
  · simp only [Value.slice.injEq] at hv; omega

theorem infoE : (Tryz.prog.info? 59).map (fun i => (i.zero, i.size, i.bytes)) = some (some (.agg #[.string ByteArray.empty, .string ByteArray.empty, .int .i64 0]), 3, 40) := by kernel_rfl

theorem makeE (n : Nat) (hn : n ≤ 1048576) (w : World) : (Instr.makeSlice 31 (.int .i64 (n : Int)) (.int .i64 (n : Int))).run Tryz.prog w = .ok (.slice (some ⟨w.heap.size, 0, none⟩) n n) (w.alloc (.cells (madeCells #[.string ByteArray.empty, .string ByteArray.empty, .int .i64 0] (n * 3)) 59)) := by
  obtain ⟨i, hi, h2⟩ := Option.map_eq_some_iff.1 infoE
  simp only [Prod.mk.injEq] at h2
  obtain ⟨hz, hs, hb⟩ := h2
  have := run_make (P := Tryz.prog) w 31 59 i _ Tryz.underlying31 hi hz .i64 .i64 n n (by omega) (by omega) (by rw [hb]; omega) (by omega)
  have e : (Value.agg #[.string ByteArray.empty, .string ByteArray.empty, .int .i64 0]).cells = #[.string ByteArray.empty, .string ByteArray.empty, .int .i64 0] := rfl
  rw [hs, e] at this
  simpa using this

theorem EOwn.made (w : World) (n : Nat) (t : TypeId) : EOwn (w.alloc (.cells (madeCells #[.string ByteArray.empty, .string ByteArray.empty, .int .i64 0] (n * 3)) t)) w.heap.size (List.replicate n E0) := by
  have e1 := (MapKept.heap_alloc w (.cells (madeCells #[.string ByteArray.empty, .string ByteArray.empty, .int .i64 0] (n * 3)) t)).1
  refine ⟨⟨by simp, fun i hi => ?_⟩, fun j => ?_⟩
  · have hi' : i < n := by simpa using hi
    have m0 : i * 3 % 3 = 0 := by omega
    have m1 : (i * 3 + 1) % 3 = 1 := by omega
    have m2 : (i * 3 + 2) % 3 = 2 := by omega
    have l0 : i * 3 < n * 3 := by omega
    have l1 : i * 3 + 1 < n * 3 := by omega
    have l2 : i * 3 + 2 < n * 3 := by omega
    simp only [World.cell?]
    rw [e1]
    refine ⟨?_, ?_, ?_⟩
    · simp [madeCells, hi', l0, m0]
    · simp [madeCells, hi', l1, m1]
    · simp [madeCells, hi', l2, m2]
  · simp only [World.frozen?]
    rw [e1]; simp

theorem copy_step (l : List E) (k : Nat) (h : k < l.length) : (l.take k ++ List.replicate (l.length - k) E0).set k (l.getD k E0) = l.take (k + 1) ++ List.replicate (l.length - (k + 1)) E0 := by
  have e : l.length - k = (l.length - (k + 1)) + 1 := by omega
  rw [e, List.replicate_succ, List.set_append_right _ _ (by simp; omega)]
  have e2 : k - (l.take k).length = 0 := by simp; omega
  rw [e2, List.set_cons_zero]
  have e3 : l.take (k + 1) = l.take k ++ [l.getD k E0] := by rw [List.take_add_one, List.getElem?_eq_getElem h]; simp [List.getD, h]
  rw [e3, List.append_assoc]; rfl

theorem toEv (s m : ByteArray) (q : Int) (w : World) :
    Calls Tryz.prog 26 #[.agg #[.string s, .string m, .int .i64 q]] w fun e w' => e = .returned (.agg #[.string s, .string m, .int .i64 q]) ∧ Below w.heap.size w w' := by
  go_enter Tryz.func26, Tryz.ntmps26
  go_wp2
  exact bodyPost_ret (v := .agg #[.string s, .string m, .int .i64 q]) (by simp [results, Tryz.results26, go_sem]) rfl ⟨rfl, ((((Below.refl _ _).alloc (Nat.le_refl _) _).alloc (by simp) _).alloc (by simp; omega) _)⟩

set_option maxHeartbeats 800000 in
theorem toEvs (v : Value) (l : List E) (w : World) (h : ER w v l) (hl : l.length ≤ 1048576) :
    Calls Tryz.prog 8 #[v] w fun e w' => ∃ v', e = .returned v' ∧ EN w.heap.size w' v' l ∧ Below w.heap.size w w' := by
  have hmk := makeE l.length hl
  rcases h with ⟨rfl, a, c, rfl⟩ | ⟨b, o, cap, rfl, h2⟩
  · clear hmk hl
    have hmk0 : ∀ w : World, (Instr.makeSlice 31 (.int .i64 0) (.int .i64 0)).run Tryz.prog w = .ok (.slice (some ⟨w.heap.size, 0, none⟩) 0 0) (w.alloc (.cells #[] 59)) := fun w => by kernel_rfl
    go_enter Tryz.func8, Tryz.ntmps8
    go_wp2
    refine wp_loop_rounds 1 ?_
    rw [rounds_succ]
    go_wp2
    go_ret
    exact ⟨_, rfl, .inl ⟨rfl, _, _, rfl⟩, (Below.refl _ _).alloc (Nat.le_refl _) _⟩
  · have H3 := hide h2; clear h2
    have hbs := (unhide H3).1
    go_enter Tryz.func8, Tryz.ntmps8
    go_wp2
    go_loopw [4] (fun i wr => ∃ k : Nat, k ≤ l.length ∧ i = .int .i64 k ∧ Hid (EOwn wr w.heap.size (l.take k ++ List.replicate (l.length - k) E0)) ∧ Below w.heap.size w wr) (fun i _ => l.length - (intOf i).toNat)
    case atStart => exact ⟨0, Nat.zero_le _, rfl, by show EOwn _ _ _; simpa using EOwn.made w l.length _, (Below.refl _ _).alloc (Nat.le_refl _) _⟩
    case round =>
      obtain ⟨k, hk, rfl, hd, hb⟩ := hrel
      by_cases hlt : k < l.length
      · obtain ⟨c0, c1, c2⟩ := ((unhide H3).kept hb).2 k hlt
        have HK : Hid (∀ w1, Below wr.heap.size wr w1 → EOwn w1 w.heap.size (l.take k ++ List.replicate (l.length - k) E0)) := hide (fun w1 h1 => (unhide hd).kept h1)
        have HS : Hid (∀ w1, EOwn w1 w.heap.size (l.take k ++ List.replicate (l.length - k) E0) → EOwn (((w1.setCell ⟨w.heap.size, k * 3, none⟩ (.string (l.getD k E0).1)).setCell ⟨w.heap.size, k * 3 + 1, none⟩ (.string (l.getD k E0).2.1)).setCell ⟨w.heap.size, k * 3 + 2, none⟩ (.int .i64 (l.getD k E0).2.2)) w.heap.size (l.take (k + 1) ++ List.replicate (l.length - (k + 1)) E0)) := hide (fun w1 h1 => by
          have := h1.set (k := k) (by simp; omega) (l.getD k E0)
          rwa [copy_step l k hlt, Nat.zero_add] at this)
        have HB := hide hb
        have hk2 : k < (l.take k ++ List.replicate (l.length - k) E0).length := by simp; omega
        clear hb hd
        generalize l.getD k E0 = x at *
        obtain ⟨s, m, q⟩ := x
        generalize hL : l.take k ++ List.replicate (l.length - k) E0 = L at *
        have HL := hide hL
        clear hL
        simp only at c0 c1 c2 HS
        go_wp2_with (fail)
        refine (toEv s m q wr).mono ?_
        rintro e w1 ⟨rfl, hb1⟩
        have HX := hide (unhide HS w1 (unhide HK w1 hb1))
        obtain ⟨⟨_, hcs⟩, hfz⟩ := unhide HK w1 hb1
        obtain ⟨d0, d1, d2⟩ := hcs k hk2
        have f0 := hfz (k * 3)
        have f1 := hfz (k * 3 + 1)
        have f2 := hfz (k * 3 + 2)
        rw [Nat.zero_add] at d0 d1 d2
        clear hcs hfz
        have HB1 : Hid (Below w.heap.size w w1) := hide (below_trans (unhide HB) hb1)
        clear hb1 HB
        generalize (L.getD k E0).1 = y0 at *
        generalize (L.getD k E0).2.1 = y1 at *
        generalize (L.getD k E0).2.2 = y2 at *
        go_wp2
        exact ⟨⟨k + 1, by omega, by go_num, HX, (((unhide HB1).setCell (Nat.le_refl _) _).setCell (Nat.le_refl _) _).setCell (Nat.le_refl _) _⟩, by simp [intOf]; omega⟩
      · obtain rfl : k = l.length := by omega
        go_wp2
        go_ret
        refine ⟨_, rfl, .inr ⟨w.heap.size, l.length, rfl, ⟨Nat.le_refl _, Nat.le_refl _⟩, ?_⟩, hb⟩
        have := unhide hd
        simpa using this

/-- eqUseEvent, of one and the same -/
theorem eqEv (s m : ByteArray) (p : Int) (w : World) :
    Calls Tryz.prog 31 #[.agg #[.string s, .string m, .int .i64 p], .agg #[.string s, .string m, .int .i64 p]] w fun e w' => e = .returned (.bool true) ∧ Below w.heap.size w w' := by
  have h1 : (!s.toList == s.toList) = false := by simp
  have h3 : (!m.toList == m.toList) = false := by simp
  have h2 : (p != p) = false := by simp
  go_enter Tryz.func31, Tryz.ntmps31
  go_wp2
  go_ret
  exact ⟨rfl, ((Below.refl _ _).alloc (Nat.le_refl _) _).alloc (by simp) _⟩

theorem below_drewN' {B : Nat} {a w : World} (h : Below B a w) (k : Nat) : Below B a (w.drewN k) := ⟨h.os, h.tape, h.output, h.size, h.block⟩
theorem below_of_drew {B : Nat} {a w : World} (h : Below B a.drew w) : Below B a w := ⟨h.os, h.tape, h.output, h.size, h.block⟩
set_option maxHeartbeats 800000 in
theorem eqEvs (v v' : Value) (l : List E) (w : World) (h : ER w v l) (h' : ER w v' l) (hl : l.length ≤ 1048576) :
    Calls Tryz.prog 12 #[v, v'] w fun e w' => e = .returned (.bool true) ∧ Below w.heap.size w w' := by
  have hn : (((l.length : Int)) != (l.length : Int)) = false := by simp
  by_cases h0 : l.length = 0
  · obtain rfl : l = [] := List.length_eq_zero_iff.1 h0
    obtain ⟨a, c, rfl⟩ := h.slice
    obtain ⟨a', c', rfl⟩ := h'.slice
    clear h h' h0 hl hn
    go_enter Tryz.func12, Tryz.ntmps12
    go_wp2
    refine wp_loop_rounds 1 ?_
    rw [rounds_succ]
    go_wp2
    go_ret
    exact ⟨rfl, Below.refl _ _⟩
  · rcases h with ⟨rfl, _⟩ | ⟨b, o, cap, rfl, hc⟩
    · simp at h0
    rcases h' with ⟨rfl, _⟩ | ⟨b', o', cap', rfl, hc'⟩
    · simp at h0
    have HC := hide hc; have HC' := hide hc'
    have hbs := hc.1
    have hbs' := hc'.1
    clear hc hc' h0
    go_enter Tryz.func12, Tryz.ntmps12
    go_wp2
    go_loopw [5] (fun i wr => ∃ k : Nat, k ≤ l.length ∧ i = .int .i64 k ∧ Hid (Below w.heap.size w wr)) (fun i _ => l.length - (intOf i).toNat)
    case atStart => exact ⟨0, Nat.zero_le _, rfl, hide (Below.refl _ _)⟩
    case round =>
      obtain ⟨k, hk, rfl, hb⟩ := hrel
      by_cases hlt : k < l.length
      · obtain ⟨c0, c1, c2⟩ := ((unhide HC).kept (unhide hb)).2 k hlt
        obtain ⟨d0, d1, d2⟩ := ((unhide HC').kept (unhide hb)).2 k hlt
        have i1 : (0 : Int) ≤ (k : Int) := by omega
        have i2 : (k : Int) < (l.length : Int) := by omega
        have z1 : b < wr.heap.size := Nat.lt_of_lt_of_le hbs (unhide hb).size
        have z2 : b' < wr.heap.size := Nat.lt_of_lt_of_le hbs' (unhide hb).size
        generalize l.getD k E0 = x at *
        obtain ⟨s, m, q⟩ := x
        simp only at c0 c1 c2 d0 d1 d2
        go_wp2
        go_region_held3 (fun w2 => w2.cell? ⟨b, o + k * 3, none⟩ = some (.string s) ∧ w2.cell? ⟨b, o + k * 3 + 1, none⟩ = some (.string m) ∧ w2.cell? ⟨b, o + k * 3 + 2, none⟩ = some (.int .i64 q) ∧ w2.cell? ⟨b', o' + k * 3, none⟩ = some (.string s) ∧ w2.cell? ⟨b', o' + k * 3 + 1, none⟩ = some (.string m) ∧ w2.cell? ⟨b', o' + k * 3 + 2, none⟩ = some (.int .i64 q)) (go_keep) (first | (go_at_call 31; refine (eqEv s m q _).mono ?_; rintro e w1 ⟨rfl, hb1⟩; have q1 := hb1.cell (p := ⟨b, o + k * 3, none⟩) z1; have q2 := hb1.cell (p := ⟨b, o + k * 3 + 1, none⟩) z1; have q5 := hb1.cell (p := ⟨b, o + k * 3 + 2, none⟩) z1; have q3 := hb1.cell (p := ⟨b', o' + k * 3, none⟩) z2; have q4 := hb1.cell (p := ⟨b', o' + k * 3 + 1, none⟩) z2; have q6 := hb1.cell (p := ⟨b', o' + k * 3 + 2, none⟩) z2))
        have HB : Hid (Below w.heap.size w w1) := hide (below_trans (unhide hb) (below_of_drew hb1))
        clear hb1 hb q1 q2 q3 q4 q5 q6
        go_wp2
        exact ⟨⟨k + 1, by omega, by go_num, HB⟩, by simp [intOf]; omega⟩
      · go_wp2
        go_ret
        exact ⟨rfl, unhide hb⟩
end Go.Proofs.YtnchgeiinkaefaaGreatDoor.Evs
end

section
/-
  Lines of tariffs (two texts and a number, in memory as events are): the laws' own helpers on them: size, copy, compare.
-/
namespace Go.Proofs.YtnchgeiinkaefaaGreatDoor.Evs
set_option linter.unusedVariables false
open Go.RowKit

/-- szBillLine -/
theorem szLin (s m : ByteArray) (q n : Int) (w : World) (hu : s.size ≤ maxLen) (hm : m.size ≤ maxLen) (h0 : 0 ≤ n) (h1 : n ≤ 1048576) :
    Calls Tryz.prog 17 #[.agg #[.string s, .string m, .int .i64 q], .int .i64 n] w fun e w' => ∃ r : Int, e = .returned (.int .i64 r) ∧ -1 ≤ r ∧ r ≤ n ∧ Below w.heap.size w w' := by
  unfold maxLen at hu hm
  by_cases hn : n - s.size < 0
  · go_enter Tryz.func17, Tryz.ntmps17
    go_wp2
    go_ret
    exact ⟨_, rfl, by omega, by omega, (Below.refl _ _).alloc (Nat.le_refl _) _⟩
  by_cases hn2 : n - s.size - m.size < 0
  · go_enter Tryz.func17, Tryz.ntmps17
    go_wp2
    go_ret
    exact ⟨_, rfl, by omega, by omega, (Below.refl _ _).alloc (Nat.le_refl _) _⟩
  · go_enter Tryz.func17, Tryz.ntmps17
    go_wp2
    go_ret
    exact ⟨_, rfl, by omega, by omega, (Below.refl _ _).alloc (Nat.le_refl _) _⟩

/-- szBillLineS -/
theorem szLins (v : Value) (l : List E) (n : Int) (w : World) (h : ER w v l) (hl : l.length ≤ maxLen) (hs : ∀ u ∈ l, u.1.size ≤ maxLen ∧ u.2.1.size ≤ maxLen) (h0 : 0 ≤ n) (h1 : n ≤ 1048576) :
    Calls Tryz.prog 4 #[v, .int .i64 n] w fun e w' => ∃ r : Int, e = .returned (.int .i64 r) ∧ -1 ≤ r ∧ r ≤ n ∧ (0 ≤ r → l.length ≤ n) ∧ Below w.heap.size w w' := by
  have hs' := hs
  unfold maxLen at hl hs
  by_cases hneg : n - l.length < 0
  · obtain ⟨a, c, rfl⟩ := h.slice
    clear h
    go_enter Tryz.func4, Tryz.ntmps4
    go_wp2
    go_ret
    exact ⟨_, rfl, by omega, by omega, fun h => by omega, Below.refl _ _⟩
  rcases h with ⟨rfl, a, c, rfl⟩ | ⟨b, o, cap, rfl, hc⟩
  · go_enter Tryz.func4, Tryz.ntmps4
    go_wp2
    refine wp_loop_rounds 1 ?_
    rw [rounds_succ]
    go_wp2
    go_ret
    exact ⟨_, rfl, by omega, by omega, fun h => by simpa using h0, Below.refl _ _⟩
  · have HC := hide hc; clear hc
    go_enter Tryz.func4, Tryz.ntmps4
    go_wp2
    go_loopw [1, 5] (fun t i wr => ∃ (k : Nat) (q : Int), k ≤ l.length ∧ i = .int .i64 k ∧ t = .int .i64 q ∧ 0 ≤ q ∧ q ≤ n ∧ Hid (Below w.heap.size w wr)) (fun _ i _ => l.length - (intOf i).toNat)
    case atStart => exact ⟨0, _, by omega, rfl, rfl, by omega, by omega, hide (Below.refl _ _)⟩
    case round =>
      obtain ⟨k, q, hk, rfl, rfl, hq0, hq1, hb⟩ := hrel
      by_cases hlt : k < l.length
      · have hc := ((unhide HC).kept (unhide hb)).2 k hlt
        obtain ⟨c1, c2, c3⟩ := hc
        obtain ⟨hsz, hmz⟩ : (l.getD k E0).1.size ≤ maxLen ∧ (l.getD k E0).2.1.size ≤ maxLen := hs' _ (by simp [List.getD, hlt])
        generalize (l.getD k E0).1 = s at *
        generalize (l.getD k E0).2.1 = m at *
        generalize (l.getD k E0).2.2 = z at *
        go_wp2_with (fail)
        refine (szLin s m z q wr hsz hmz hq0 (by omega)).mono ?_
        rintro e w1 ⟨r, rfl, r1, r2, hb1⟩
        have HB : Hid (Below w.heap.size w w1) := hide (below_trans (unhide hb) hb1)
        clear hb hb1
        by_cases hr : r < 0
        · go_wp2
          go_ret
          exact ⟨_, rfl, by omega, by omega, fun h => by omega, unhide HB⟩
        · go_wp2
          exact ⟨⟨k + 1, r, by omega, by go_num, rfl, by omega, by omega, HB⟩, by simp [intOf]; omega⟩
      · go_wp2
        go_ret
        exact ⟨_, rfl, by omega, by omega, fun h => by omega, unhide hb⟩

theorem infoL : (Tryz.prog.info? 52).map (fun i => (i.zero, i.size, i.bytes)) = some (some (.agg #[.string ByteArray.empty, .string ByteArray.empty, .int .i64 0]), 3, 40) := by kernel_rfl

theorem makeL (n : Nat) (hn : n ≤ 1048576) (w : World) : (Instr.makeSlice 29 (.int .i64 (n : Int)) (.int .i64 (n : Int))).run Tryz.prog w = .ok (.slice (some ⟨w.heap.size, 0, none⟩) n n) (w.alloc (.cells (madeCells #[.string ByteArray.empty, .string ByteArray.empty, .int .i64 0] (n * 3)) 52)) := by
  obtain ⟨i, hi, h2⟩ := Option.map_eq_some_iff.1 infoL
  simp only [Prod.mk.injEq] at h2
  obtain ⟨hz, hs, hb⟩ := h2
  have := run_make (P := Tryz.prog) w 29 52 i _ Tryz.underlying29 hi hz .i64 .i64 n n (by omega) (by omega) (by rw [hb]; omega) (by omega)
  have e : (Value.agg #[.string ByteArray.empty, .string ByteArray.empty, .int .i64 0]).cells = #[.string ByteArray.empty, .string ByteArray.empty, .int .i64 0] := rfl
  rw [hs, e] at this
  simpa using this

theorem toLin (s m : ByteArray) (q : Int) (w : World) :
    Calls Tryz.prog 25 #[.agg #[.string s, .string m, .int .i64 q]] w fun e w' => e = .returned (.agg #[.string s, .string m, .int .i64 q]) ∧ Below w.heap.size w w' := by
  go_enter Tryz.func25, Tryz.ntmps25
  go_wp2
  exact bodyPost_ret (v := .agg #[.string s, .string m, .int .i64 q]) (by simp [results, Tryz.results25, go_sem]) rfl ⟨rfl, ((((Below.refl _ _).alloc (Nat.le_refl _) _).alloc (by simp) _).alloc (by simp; omega) _)⟩

set_option maxHeartbeats 800000 in
theorem toLins (v : Value) (l : List E) (w : World) (h : ER w v l) (hl : l.length ≤ 1048576) :
    Calls Tryz.prog 7 #[v] w fun e w' => ∃ v', e = .returned v' ∧ EN w.heap.size w' v' l ∧ Below w.heap.size w w' := by
  have hmk := makeL l.length hl
  rcases h with ⟨rfl, a, c, rfl⟩ | ⟨b, o, cap, rfl, h2⟩
  · clear hmk hl
    have hmk0 : ∀ w : World, (Instr.makeSlice 29 (.int .i64 0) (.int .i64 0)).run Tryz.prog w = .ok (.slice (some ⟨w.heap.size, 0, none⟩) 0 0) (w.alloc (.cells #[] 52)) := fun w => by kernel_rfl
    go_enter Tryz.func7, Tryz.ntmps7
    go_wp2
    refine wp_loop_rounds 1 ?_
    rw [rounds_succ]
    go_wp2
    go_ret
    exact ⟨_, rfl, .inl ⟨rfl, _, _, rfl⟩, (Below.refl _ _).alloc (Nat.le_refl _) _⟩
  · have H3 := hide h2; clear h2
    have hbs := (unhide H3).1
    go_enter Tryz.func7, Tryz.ntmps7
    go_wp2
    go_loopw [4] (fun i wr => ∃ k : Nat, k ≤ l.length ∧ i = .int .i64 k ∧ Hid (EOwn wr w.heap.size (l.take k ++ List.replicate (l.length - k) E0)) ∧ Below w.heap.size w wr) (fun i _ => l.length - (intOf i).toNat)
    case atStart => exact ⟨0, Nat.zero_le _, rfl, by show EOwn _ _ _; simpa using EOwn.made w l.length _, (Below.refl _ _).alloc (Nat.le_refl _) _⟩
    case round =>
      obtain ⟨k, hk, rfl, hd, hb⟩ := hrel
      by_cases hlt : k < l.length
      · obtain ⟨c0, c1, c2⟩ := ((unhide H3).kept hb).2 k hlt
        have HK : Hid (∀ w1, Below wr.heap.size wr w1 → EOwn w1 w.heap.size (l.take k ++ List.replicate (l.length - k) E0)) := hide (fun w1 h1 => (unhide hd).kept h1)
        have HS : Hid (∀ w1, EOwn w1 w.heap.size (l.take k ++ List.replicate (l.length - k) E0) → EOwn (((w1.setCell ⟨w.heap.size, k * 3, none⟩ (.string (l.getD k E0).1)).setCell ⟨w.heap.size, k * 3 + 1, none⟩ (.string (l.getD k E0).2.1)).setCell ⟨w.heap.size, k * 3 + 2, none⟩ (.int .i64 (l.getD k E0).2.2)) w.heap.size (l.take (k + 1) ++ List.replicate (l.length - (k + 1)) E0)) := hide (fun w1 h1 => by
          have := h1.set (k := k) (by simp; omega) (l.getD k E0)
          rwa [copy_step l k hlt, Nat.zero_add] at this)
        have HB := hide hb
        have hk2 : k < (l.take k ++ List.replicate (l.length - k) E0).length := by simp; omega
        clear hb hd
        generalize l.getD k E0 = x at *
        obtain ⟨s, m, q⟩ := x
        generalize hL : l.take k ++ List.replicate (l.length - k) E0 = L at *
        have HL := hide hL
        clear hL
        simp only at c0 c1 c2 HS
        go_wp2_with (fail)
        refine (toLin s m q wr).mono ?_
        rintro e w1 ⟨rfl, hb1⟩
        have HX := hide (unhide HS w1 (unhide HK w1 hb1))
        obtain ⟨⟨_, hcs⟩, hfz⟩ := unhide HK w1 hb1
        obtain ⟨d0, d1, d2⟩ := hcs k hk2
        have f0 := hfz (k * 3)
        have f1 := hfz (k * 3 + 1)
        have f2 := hfz (k * 3 + 2)
        rw [Nat.zero_add] at d0 d1 d2
        clear hcs hfz
        have HB1 : Hid (Below w.heap.size w w1) := hide (below_trans (unhide HB) hb1)
        clear hb1 HB
        generalize (L.getD k E0).1 = y0 at *
        generalize (L.getD k E0).2.1 = y1 at *
        generalize (L.getD k E0).2.2 = y2 at *
        go_wp2
        exact ⟨⟨k + 1, by omega, by go_num, HX, (((unhide HB1).setCell (Nat.le_refl _) _).setCell (Nat.le_refl _) _).setCell (Nat.le_refl _) _⟩, by simp [intOf]; omega⟩
      · obtain rfl : k = l.length := by omega
        go_wp2
        go_ret
        refine ⟨_, rfl, .inr ⟨w.heap.size, l.length, rfl, ⟨Nat.le_refl _, Nat.le_refl _⟩, ?_⟩, hb⟩
        have := unhide hd
        simpa using this

/-- eqBillLine, of one and the same -/
theorem eqLin (s m : ByteArray) (p : Int) (w : World) :
    Calls Tryz.prog 30 #[.agg #[.string s, .string m, .int .i64 p], .agg #[.string s, .string m, .int .i64 p]] w fun e w' => e = .returned (.bool true) ∧ Below w.heap.size w w' := by
  have h1 : (!s.toList == s.toList) = false := by simp
  have h3 : (!m.toList == m.toList) = false := by simp
  have h2 : (p != p) = false := by simp
  go_enter Tryz.func30, Tryz.ntmps30
  go_wp2
  go_ret
  exact ⟨rfl, ((Below.refl _ _).alloc (Nat.le_refl _) _).alloc (by simp) _⟩

set_option maxHeartbeats 800000 in
theorem eqLins (v v' : Value) (l : List E) (w : World) (h : ER w v l) (h' : ER w v' l) (hl : l.length ≤ 1048576) :
    Calls Tryz.prog 11 #[v, v'] w fun e w' => e = .returned (.bool true) ∧ Below w.heap.size w w' := by
  have hn : (((l.length : Int)) != (l.length : Int)) = false := by simp
  by_cases h0 : l.length = 0
  · obtain rfl : l = [] := List.length_eq_zero_iff.1 h0
    obtain ⟨a, c, rfl⟩ := h.slice
    obtain ⟨a', c', rfl⟩ := h'.slice
    clear h h' h0 hl hn
    go_enter Tryz.func11, Tryz.ntmps11
    go_wp2
    refine wp_loop_rounds 1 ?_
    rw [rounds_succ]
    go_wp2
    go_ret
    exact ⟨rfl, Below.refl _ _⟩
  · rcases h with ⟨rfl, _⟩ | ⟨b, o, cap, rfl, hc⟩
    · simp at h0
    rcases h' with ⟨rfl, _⟩ | ⟨b', o', cap', rfl, hc'⟩
    · simp at h0
    have HC := hide hc; have HC' := hide hc'
    have hbs := hc.1
    have hbs' := hc'.1
    clear hc hc' h0
    go_enter Tryz.func11, Tryz.ntmps11
    go_wp2
    go_loopw [5] (fun i wr => ∃ k : Nat, k ≤ l.length ∧ i = .int .i64 k ∧ Hid (Below w.heap.size w wr)) (fun i _ => l.length - (intOf i).toNat)
    case atStart => exact ⟨0, Nat.zero_le _, rfl, hide (Below.refl _ _)⟩
    case round =>
      obtain ⟨k, hk, rfl, hb⟩ := hrel
      by_cases hlt : k < l.length
      · obtain ⟨c0, c1, c2⟩ := ((unhide HC).kept (unhide hb)).2 k hlt
        obtain ⟨d0, d1, d2⟩ := ((unhide HC').kept (unhide hb)).2 k hlt
        have i1 : (0 : Int) ≤ (k : Int) := by omega
        have i2 : (k : Int) < (l.length : Int) := by omega
        have z1 : b < wr.heap.size := Nat.lt_of_lt_of_le hbs (unhide hb).size
        have z2 : b' < wr.heap.size := Nat.lt_of_lt_of_le hbs' (unhide hb).size
        generalize l.getD k E0 = x at *
        obtain ⟨s, m, q⟩ := x
        simp only at c0 c1 c2 d0 d1 d2
        go_wp2
        go_region_held3 (fun w2 => w2.cell? ⟨b, o + k * 3, none⟩ = some (.string s) ∧ w2.cell? ⟨b, o + k * 3 + 1, none⟩ = some (.string m) ∧ w2.cell? ⟨b, o + k * 3 + 2, none⟩ = some (.int .i64 q) ∧ w2.cell? ⟨b', o' + k * 3, none⟩ = some (.string s) ∧ w2.cell? ⟨b', o' + k * 3 + 1, none⟩ = some (.string m) ∧ w2.cell? ⟨b', o' + k * 3 + 2, none⟩ = some (.int .i64 q)) (go_keep) (first | (go_at_call 30; refine (eqLin s m q _).mono ?_; rintro e w1 ⟨rfl, hb1⟩; have q1 := hb1.cell (p := ⟨b, o + k * 3, none⟩) z1; have q2 := hb1.cell (p := ⟨b, o + k * 3 + 1, none⟩) z1; have q5 := hb1.cell (p := ⟨b, o + k * 3 + 2, none⟩) z1; have q3 := hb1.cell (p := ⟨b', o' + k * 3, none⟩) z2; have q4 := hb1.cell (p := ⟨b', o' + k * 3 + 1, none⟩) z2; have q6 := hb1.cell (p := ⟨b', o' + k * 3 + 2, none⟩) z2))
        have HB : Hid (Below w.heap.size w w1) := hide (below_trans (unhide hb) (below_of_drew hb1))
        clear hb1 hb q1 q2 q3 q4 q5 q6
        go_wp2
        exact ⟨⟨k + 1, by omega, by go_num, HB⟩, by simp [intOf]; omega⟩
      · go_wp2
        go_ret
        exact ⟨rfl, unhide hb⟩
end Go.Proofs.YtnchgeiinkaefaaGreatDoor.Evs
end
