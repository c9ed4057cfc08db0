/-
  Slices of ints in memory, and the laws' own helpers on them (copy, compare, mark, look).
-/
import Derived.Test.YtgaflnkefjmblaaProg
import Derived.WalkKit
import Derived.WalkLawsBesides
import Derived.Below
import Derived.Deep.QuietTactic
import Derived.BigQuiet
import Derived.Deep.OwnRows
import Derived.WalkMore
namespace Go.Proofs.Ytgaflnkefjmblaa.Ints
set_option linter.unusedVariables false
open Go.RowKit

theorem hide {p : Prop} (h : p) : Hid p := h
theorem unhide {p : Prop} (h : Hid p) : p := h

/-- from o on block b holds the numbers l; none of these cells is frozen -/
def Cells (W : World) (b o : Nat) (l : List Int) : Prop := b < W.heap.size ∧ ∀ i, i < l.length → W.cell? ⟨b, o + i, none⟩ = some (.int .i64 (l.getD i 0)) ∧ W.frozen? ⟨b, o + i, none⟩ = false

theorem Cells.kept {W W' : World} {b o : Nat} {l : List Int} {r : Option Nat} (h : Cells W b o l) (hg : W.grownBy W' r) (hb : some b ≠ r) : Cells W' b o l :=
  ⟨Nat.lt_of_lt_of_le h.1 hg.size, fun i hi => ⟨hg.cell (h.2 i hi).1 hb, by rw [World.frozen?_of_block (hg.block b h.1 hb)]; exact (h.2 i hi).2⟩⟩

theorem Cells.set {W : World} {b o : Nat} {l : List Int} (h : Cells W b o l) {k : Nat} (hk : k < l.length) (x : Int) : Cells (W.setCell ⟨b, o + k, none⟩ (.int .i64 x)) b o (l.set k x) := by
  refine ⟨by simpa using h.1, fun i hi => ?_⟩
  have hi' : i < l.length := by simpa using hi
  obtain ⟨h1, h2⟩ := h.2 i hi'
  obtain ⟨h3, h4⟩ := h.2 k hk
  refine ⟨?_, by rw [World.frozen?_setCell]; exact h2⟩
  by_cases e : i = k
  · subst e
    rw [List.getD_eq_getElem?_getD, List.getElem?_set_self hi']
    exact World.cell?_setCell_same _ _ _ h3
  · rw [World.cell?_setCell_other _ _ _ _ (by simp), h1, List.getD_eq_getElem?_getD, List.getD_eq_getElem?_getD, List.getElem?_set_ne (by omega)]

theorem Cells.made (w : World) (n : Nat) (t : TypeId) : Cells (w.alloc (.cells (madeCells #[.int .i64 0] n) t)) w.heap.size 0 (List.replicate n 0) := by
  refine ⟨by simp, fun i hi => ?_⟩
  have hi' : i < n := by simpa using hi
  have e1 := (MapKept.heap_alloc w (.cells (madeCells #[.int .i64 0] n) t)).1
  constructor
  · simp only [World.cell?]
    rw [e1]
    have em : i % 1 = 0 := Nat.mod_one i
    simp [madeCells, hi', em]
  · simp only [World.frozen?]
    rw [e1]; simp

/-- the slice v holds the numbers l -/
def IR (W : World) (v : Value) (l : List Int) : Prop :=
  (v = .slice none 0 0 ∧ l = []) ∨ ∃ b o cap, v = .slice (some ⟨b, o, none⟩) l.length cap ∧ l.length ≤ 1048576 ∧ Cells W b o l

/-- blocks that a slice does not lie in may turn -/
theorem IR.kept {W W' : World} {v : Value} {l : List Int} {r : Option Nat} (h : IR W v l) (hg : W.grownBy W' r) (hne : v.ownBlock = none ∨ v.ownBlock ≠ r) : IR W' v l := by
  rcases h with h | ⟨b, o, cap, rfl, h1, h2⟩
  · exact .inl h
  · have hb : some b ≠ r := by simpa [Value.ownBlock] using hne
    exact .inr ⟨b, o, cap, rfl, h1, h2.kept hg hb⟩
theorem IR.len {W : World} {v : Value} {l : List Int} (h : IR W v l) : l.length ≤ 1048576 := by
  rcases h with ⟨_, rfl⟩ | ⟨b, o, cap, rfl, h1, _⟩
  · simp
  · exact h1
theorem below_grown {a b : World} (h : Below a.heap.size a b) (r : Option Nat) : a.grownBy b r := ⟨h.os, h.tape, h.output, h.size, fun j hj _ => h.block j hj⟩
theorem grown_trans {a b c : World} {r : Option Nat} (h : a.grownBy b r) (k : b.grownBy c r) : a.grownBy c r :=
  ⟨k.os.trans h.os, k.tape.trans h.tape, k.output.trans h.output, Nat.le_trans h.size k.size, fun j hj hne => (k.block j (Nat.lt_of_lt_of_le hj h.size) hne).trans (h.block j hj hne)⟩
theorem drew_grown (w : World) (n : Nat) (r : Option Nat) : w.grownBy (w.drewN n) r := ⟨rfl, rfl, rfl, Nat.le_refl _, fun _ _ _ => rfl⟩

/-- a store into the row -/
theorem set_grown (w : World) (b o : Nat) (u : Value) : w.grownBy (w.setCell ⟨b, o, none⟩ u) (some b) := by
  refine ⟨rfl, rfl, rfl, ?_, ?_⟩
  · simp
  · intro j hj hne
    exact Below.heap_setCell w ⟨b, o, none⟩ u j (fun e => hne (by rw [e]))

theorem info : (Try.prog.info? 3).map (fun i => (i.zero, i.size, i.bytes)) = some (some (.int .i64 0), 1, 8) := by kernel_rfl

theorem copy_step (l : List Int) (k : Nat) (h : k < l.length) : (l.take k ++ List.replicate (l.length - k) 0).set k (l.getD k 0) = l.take (k + 1) ++ List.replicate (l.length - (k + 1)) 0 := by
  have e : l.length - k = (l.length - (k + 1)) + 1 := by omega
  rw [e, List.replicate_succ, List.set_append_right _ _ (by simp; omega)]
  have e2 : k - (l.take k).length = 0 := by simp; omega
  rw [e2, List.set_cons_zero]
  have e3 : l.take (k + 1) = l.take k ++ [l.getD k 0] := by rw [List.take_add_one, List.getElem?_eq_getElem h]; simp [List.getD, h]
  rw [e3, List.append_assoc]; rfl

theorem getD_eq {l m : List Int} (hl : l.length = m.length) (h : ∀ i, i < l.length → l.getD i 0 = m.getD i 0) : l = m := by
  apply List.ext_getElem hl
  intro i h1 h2
  have := h i h1
  simpa [List.getD, h1, h2] using this

theorem eqIntS_len (v v' : Value) (l m : List Int) (w : World) (h : IR w v l) (h' : IR w v' m) (hne : l.length ≠ m.length) :
    Calls Try.prog 28 #[v, v'] w fun e w' => e = .returned (.bool false) ∧ w' = w := by
  have e1 : ∃ a c, v = .slice a l.length c := by
    rcases h with ⟨rfl, rfl⟩ | ⟨b, o, cap, rfl, _⟩
    · exact ⟨_, _, rfl⟩
    · exact ⟨_, _, rfl⟩
  have e2 : ∃ a c, v' = .slice a m.length c := by
    rcases h' with ⟨rfl, rfl⟩ | ⟨b, o, cap, rfl, _⟩
    · exact ⟨_, _, rfl⟩
    · exact ⟨_, _, rfl⟩
  have l1 := h.len
  have l2 := h'.len
  obtain ⟨a, c, rfl⟩ := e1
  obtain ⟨a', c', rfl⟩ := e2
  have hb : (((l.length : Int)) != (m.length : Int)) = true := bne_iff_ne.2 (by omega)
  clear h h'
  go_enter Try.func28, Try.ntmps28
  go_wp2
  go_ret
  exact ⟨rfl, rfl⟩

set_option maxHeartbeats 800000 in
theorem eqIntS_same (v v' : Value) (l m : List Int) (w : World) (h : IR w v l) (h' : IR w v' m) (hlen : l.length = m.length) :
    Calls Try.prog 28 #[v, v'] w fun e w' => e = .returned (.bool (l == m)) ∧ ∃ k, w' = w.drewN k := by
  have l1 := h.len
  by_cases h0 : l.length = 0
  · obtain rfl : l = [] := List.length_eq_zero_iff.1 h0
    obtain rfl : m = [] := List.length_eq_zero_iff.1 (by omega)
    have e1 : ∃ a c, v = .slice a 0 c := by
      rcases h with ⟨rfl, _⟩ | ⟨b, o, cap, rfl, _⟩
      · exact ⟨_, _, rfl⟩
      · exact ⟨_, _, rfl⟩
    have e2 : ∃ a c, v' = .slice a 0 c := by
      rcases h' with ⟨rfl, _⟩ | ⟨b, o, cap, rfl, _⟩
      · exact ⟨_, _, rfl⟩
      · exact ⟨_, _, rfl⟩
    obtain ⟨a, c, rfl⟩ := e1
    obtain ⟨a', c', rfl⟩ := e2
    clear h h' hlen l1 h0
    go_enter Try.func28, Try.ntmps28
    go_wp2
    refine wp_loop_rounds 1 ?_
    rw [rounds_succ]
    go_wp2
    go_ret
    exact ⟨rfl, 0, rfl⟩
  · rcases h with ⟨_, rfl⟩ | ⟨b, o, cap, rfl, _, hc⟩
    · simp at h0
    rcases h' with ⟨_, rfl⟩ | ⟨b', o', cap', rfl, _, hc'⟩
    · exact absurd (by rw [hlen]; rfl) h0
    have hb : (((l.length : Int)) != (m.length : Int)) = false := by simp; omega
    have HC := hide hc; have HC' := hide hc'; have HL := hide hlen
    clear hc hc' h0 hlen
    generalize hr : (l == m) = r
    have HR := hide hr; clear hr
    go_enter Try.func28, Try.ntmps28
    go_wp2
    go_loopw [5] (fun i wr => ∃ k q : Nat, k ≤ l.length ∧ i = .int .i64 k ∧ Hid (∀ j, j < k → l.getD j 0 = m.getD j 0) ∧ wr = w.drewN q) (fun i _ => l.length - (intOf i).toNat)
    case atStart => exact ⟨0, 0, Nat.zero_le _, rfl, fun j hj => by omega, rfl⟩
    case round =>
      obtain ⟨k, q, hk, rfl, hd, rfl⟩ := hrel
      by_cases hlt : k < l.length
      · have hlt' : k < m.length := by have := unhide HL; omega
        have c1 := ((unhide HC).2 k hlt).1
        have c2 := ((unhide HC').2 k hlt').1
        have i1 : (0 : Int) ≤ (k : Int) := by omega
        have i2 : (k : Int) < (l.length : Int) := by omega
        have i3 : (k : Int) < (m.length : Int) := by omega
        by_cases hx : l.getD k 0 = m.getD k 0
        · have hx' : (l.getD k 0 != m.getD k 0) = false := by simpa using hx
          have hd' : Hid (∀ j, j < k + 1 → l.getD j 0 = m.getD j 0) := fun j hj => by
            by_cases e : j < k
            · exact unhide hd j e
            · obtain rfl : j = k := by omega
              exact hx
          clear hx
          generalize l.getD k 0 = x at *
          generalize m.getD k 0 = y at *
          go_wp2
          go_quiet (fail)
          go_wp2
          exact ⟨⟨k + 1, _, by omega, by go_num, hd', rfl⟩, by simp [intOf]; omega⟩
        · have hx' : (l.getD k 0 != m.getD k 0) = true := by simpa using hx
          have hr : r = false := by
            rw [← unhide HR]
            simp only [beq_eq_false_iff_ne]
            intro e; exact hx (by rw [e])
          subst hr
          clear hx
          generalize l.getD k 0 = x at *
          generalize m.getD k 0 = y at *
          go_wp2
          go_quiet (fail)
          go_wp2
          go_ret
          exact ⟨rfl, _, World.drewN_drewN _ _ _⟩
      · have hr : r = true := by
          rw [← unhide HR]
          simp only [beq_iff_eq]
          exact getD_eq (unhide HL) (fun i hi => unhide hd i (by omega))
        subst hr
        go_wp2
        go_ret
        exact ⟨rfl, _, rfl⟩

/-- eqIntS: are the two the same? -/
theorem eqIntS (v v' : Value) (l m : List Int) (w : World) (h : IR w v l) (h' : IR w v' m) :
    Calls Try.prog 28 #[v, v'] w fun e w' => e = .returned (.bool (l == m)) ∧ ∃ k, w' = w.drewN k := by
  by_cases hl : l.length = m.length
  · exact eqIntS_same v v' l m w h h' hl
  · refine (eqIntS_len v v' l m w h h' hl).mono ?_
    rintro e w' ⟨rfl, rfl⟩
    have : (l == m) = false := by simp only [beq_eq_false_iff_ne]; intro e; exact hl (by rw [e])
    exact ⟨by rw [this], 0, rfl⟩

/-- marks: k, k + 1, .. -/
def marks (k : Int) (n : Nat) : List Int := (List.range n).map fun (i : Nat) => k + (i : Int)
theorem marks_len (k : Int) (n : Nat) : (marks k n).length = n := by simp [marks]
theorem marks_step (k : Int) (l : List Int) (j : Nat) (h : j < l.length) : (marks k j ++ l.drop j).set j (k + j) = marks k (j + 1) ++ l.drop (j + 1) := by
  rw [List.set_append_right _ _ (by rw [marks_len]; omega), marks_len, Nat.sub_self, List.drop_eq_getElem_cons h, List.set_cons_zero]
  simp [marks, List.range_succ]

set_option maxHeartbeats 800000 in
/-- markIntS: the row holds k, k + 1, .. -/
theorem markIntS (v : Value) (l : List Int) (k : Int) (w : World) (h : IR w v l) (h0 : 0 ≤ k) (h1 : k ≤ 1000000000) :
    Calls Try.prog 30 #[v, .int .i64 k] w fun e w' => e = .returned (.int .i64 (k + l.length)) ∧ IR w' v (marks k l.length) ∧ w.grownBy w' v.ownBlock := by
  have hl := h.len
  rcases h with ⟨rfl, rfl⟩ | ⟨b, o, cap, rfl, _, hc⟩
  · go_enter Try.func30, Try.ntmps30
    go_wp2
    refine wp_loop_rounds 1 ?_
    rw [rounds_succ]
    go_wp2
    go_ret
    exact ⟨by simp, .inl ⟨rfl, rfl⟩, World.grownBy.refl _ _⟩
  · have HC := hide hc; clear hc
    go_enter Try.func30, Try.ntmps30
    go_wp2
    go_loopw [1, 5] (fun t i wr => ∃ j : Nat, j ≤ l.length ∧ i = .int .i64 j ∧ t = .int .i64 (k + j) ∧ Hid (Cells wr b o (marks k j ++ l.drop j)) ∧ w.grownBy wr (some b)) (fun _ i _ => l.length - (intOf i).toNat)
    case atStart => exact ⟨0, Nat.zero_le _, rfl, by simp, by show Cells _ _ _ _; simpa [marks] using unhide HC, World.grownBy.refl _ _⟩
    case round =>
      obtain ⟨j, hj, rfl, rfl, hd, hg⟩ := hrel
      by_cases hlt : j < l.length
      · have hj2 : j < (marks k j ++ l.drop j).length := by rw [List.length_append, marks_len, List.length_drop]; omega
        obtain ⟨hu, hf⟩ := (unhide hd).2 j hj2
        have hx := (unhide hd).set hj2 (k + j)
        rw [marks_step k l j hlt] at hx
        have HX := hide hx
        clear hx hj2
        generalize (marks k j ++ l.drop j).getD j 0 = y at *
        go_wp2
        exact ⟨⟨j + 1, by omega, by go_num, by go_num, HX, grown_trans hg (set_grown _ _ _ _)⟩, by simp [intOf]; omega⟩
      · obtain rfl : j = l.length := by omega
        go_wp2
        go_ret
        refine ⟨rfl, .inr ⟨b, o, cap, by rw [marks_len], by rw [marks_len]; exact hl, ?_⟩, hg⟩
        have := unhide hd
        simpa using this

set_option maxHeartbeats 800000 in
/-- heldIntS: a row that holds k, k + 1, .. -/
theorem heldIntS (v : Value) (n : Nat) (k : Int) (w : World) (h : IR w v (marks k n)) (h0 : 0 ≤ k) (h1 : k ≤ 1000000000) :
    Calls Try.prog 31 #[v, .int .i64 k] w fun e w' => e = .returned (.int .i64 (k + n)) ∧ w' = w := by
  have hl := h.len
  rw [marks_len] at hl
  rcases h with ⟨rfl, hn⟩ | ⟨b, o, cap, rfl, _, hc⟩
  · have : n = 0 := by have := congrArg List.length hn; rw [marks_len] at this; exact this
    subst this
    clear hn
    go_enter Try.func31, Try.ntmps31
    go_wp2
    refine wp_loop_rounds 1 ?_
    rw [rounds_succ]
    go_wp2
    go_ret
    exact ⟨by simp, rfl⟩
  · rw [marks_len]
    have HC := hide hc; clear hc
    go_enter Try.func31, Try.ntmps31
    go_wp2
    go_loop [1, 5] (fun t i => ∃ j : Nat, j ≤ n ∧ i = .int .i64 j ∧ t = .int .i64 (k + j)) (fun _ i => n - (intOf i).toNat)
    case atStart => exact ⟨0, Nat.zero_le _, rfl, by simp⟩
    case round =>
      obtain ⟨j, hj, rfl, rfl⟩ := hrel
      by_cases hlt : j < n
      · have hc := ((unhide HC).2 j (by rw [marks_len]; exact hlt)).1
        have e : (marks k n).getD j 0 = k + j := by simp [marks, List.getD, hlt]
        rw [e] at hc
        clear e
        go_wp2
        exact ⟨⟨j + 1, by omega, by go_num, by go_num⟩, by simp [intOf]; omega⟩
      · obtain rfl : j = n := by omega
        go_wp2
        go_ret
        exact ⟨rfl, rfl⟩
end Go.Proofs.Ytgaflnkefjmblaa.Ints
