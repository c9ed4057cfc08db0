/-
  Texts of this proof laid together, in build order; each says of itself what it holds.
-/
import Derived.Test.YtnchgeiinkaefaaGreatDoorProg
import Derived.Test.YtnchgeiinkaefaaGreatDoorZaa
import Derived.WalkKit
import Derived.WalkLawsBesides
import Derived.Below
import Derived.Deep.QuietTactic
import Derived.BigQuiet
import Derived.WalkMore
import Derived.Outline
import Derived.Lib.Strings
import Derived.Deep.OwnRows
section
/-
  What the functions of chapter 1 on single amounts answer (the program's and the document's own), function by function.
-/
namespace Go.Proofs.YtnchgeiinkaefaaGreatDoor.Coin
set_option linter.unusedVariables false
open Go.RowKit

theorem hide {p : Prop} (h : p) : Hid p := h
theorem unhide {p : Prop} (h : Hid p) : p := h.out
theorem ret_int {k : IntKind} {a b : Int} (h : a = b) : Ending.returned (.int k a) = .returned (.int k b) := by rw [h]
theorem ret_bool {a b : Bool} (h : a = b) : Ending.returned (.bool a) = .returned (.bool b) := by rw [h]
theorem okM (a : Int) (w : World) : Calls Tryz.prog 72 #[.int .i64 a] w fun e w' => e = .returned (.bool (okB a)) ∧ w' = w := by
  by_cases h1 : -1000000000000000 ≤ a
  · by_cases h2 : a ≤ 1000000000000000
    · go_enter Tryz.func72, Tryz.ntmps72
      go_wp2
      go_ret
      exact ⟨ret_bool (okB_true ⟨h1, h2⟩).symm, rfl⟩
    · go_enter Tryz.func72, Tryz.ntmps72
      go_wp2
      go_ret
      exact ⟨ret_bool (okB_false (by omega)).symm, rfl⟩
  · go_enter Tryz.func72, Tryz.ntmps72
    go_wp2
    go_ret
    exact ⟨ret_bool (okB_false (by omega)).symm, rfl⟩

theorem okI (a : Int) (w : World) : Calls Tryz.prog 47 #[.int .i64 a] w fun e w' => e = .returned (.bool (okB a)) ∧ w' = w := by
  go_enter Tryz.func47, Tryz.ntmps47
  go_wp2_with (go_at_call 72; refine (okM _ _).mono ?_; rintro e w' ⟨rfl, rfl⟩)
  go_ret
  exact ⟨rfl, rfl⟩

theorem okS (a : Int) (w : World) : Calls Tryz.prog 23 #[.int .i64 a] w fun e w' => e = .returned (.bool (okB a)) ∧ w' = w := by
  by_cases h1 : -1000000000000000 ≤ a
  · by_cases h2 : a ≤ 1000000000000000
    · go_enter Tryz.func23, Tryz.ntmps23
      go_wp2
      go_ret
      exact ⟨ret_bool (okB_true ⟨h1, h2⟩).symm, rfl⟩
    · go_enter Tryz.func23, Tryz.ntmps23
      go_wp2
      go_ret
      exact ⟨ret_bool (okB_false (by omega)).symm, rfl⟩
  · go_enter Tryz.func23, Tryz.ntmps23
    go_wp2
    go_ret
    exact ⟨ret_bool (okB_false (by omega)).symm, rfl⟩

theorem szM (a : Int) (w : World) (h : -9223372036854775807 ≤ a) (h' : a ≤ 9223372036854775807) : Calls Tryz.prog 103 #[.int .i64 a] w fun e w' => e = .returned (.int .i64 (sz a)) ∧ w' = w := by
  by_cases h1 : a < 0
  · go_enter Tryz.func103, Tryz.ntmps103
    go_wp2
    go_ret
    exact ⟨ret_int (sz_neg h1).symm, rfl⟩
  · go_enter Tryz.func103, Tryz.ntmps103
    go_wp2
    go_ret
    exact ⟨ret_int (sz_pos (by omega)).symm, rfl⟩

theorem szS (a : Int) (w : World) (h : -9223372036854775807 ≤ a) (h' : a ≤ 9223372036854775807) : Calls Tryz.prog 91 #[.int .i64 a] w fun e w' => e = .returned (.int .i64 (sz a)) ∧ w' = w := by
  by_cases h1 : a < 0
  · go_enter Tryz.func91, Tryz.ntmps91
    go_wp2
    go_ret
    exact ⟨ret_int (sz_neg h1).symm, rfl⟩
  · go_enter Tryz.func91, Tryz.ntmps91
    go_wp2
    go_ret
    exact ⟨ret_int (sz_pos (by omega)).symm, rfl⟩

theorem plusM (a b : Int) (w : World) : Calls Tryz.prog 166 #[.int .i64 a, .int .i64 b] w fun e w' => e = .returned (.tuple #[.int .i64 (addV a b), .bool (addB a b)]) ∧ w' = w := by
  cases ha : okB a
  · go_enter Tryz.func166, Tryz.ntmps166
    go_wp2_with (go_at_call 72; refine (okM _ _).mono ?_; rintro e w' ⟨rfl, rfl⟩)
    go_ret2
    exact ⟨by simp [addV, addB, ha], rfl⟩
  · cases hb : okB b
    · go_enter Tryz.func166, Tryz.ntmps166
      go_wp2_with (go_at_call 72; refine (okM _ _).mono ?_; rintro e w' ⟨rfl, rfl⟩)
      go_ret2
      exact ⟨by simp [addV, addB, hb], rfl⟩
    · have h1 := okB_iff.1 ha
      have h2 := okB_iff.1 hb
      cases hc : okB (a + b)
      · go_enter Tryz.func166, Tryz.ntmps166
        go_wp2_with (go_at_call 72; refine (okM _ _).mono ?_; rintro e w' ⟨rfl, rfl⟩)
        go_ret2
        exact ⟨by simp [addV, addB, hc], rfl⟩
      · go_enter Tryz.func166, Tryz.ntmps166
        go_wp2_with (go_at_call 72; refine (okM _ _).mono ?_; rintro e w' ⟨rfl, rfl⟩)
        go_ret2
        exact ⟨by simp [addV, addB, ha, hb, hc], rfl⟩

theorem addI (a b : Int) (w : World) : Calls Tryz.prog 136 #[.int .i64 a, .int .i64 b] w fun e w' => e = .returned (.tuple #[.int .i64 (addV a b), .bool (addB a b)]) ∧ w' = w := by
  go_enter Tryz.func136, Tryz.ntmps136
  go_wp2_with (go_at_call 166; refine (plusM _ _ _).mono ?_; rintro e w' ⟨rfl, rfl⟩)
  go_ret2
  exact ⟨rfl, rfl⟩

theorem addS (a b : Int) (w : World) : Calls Tryz.prog 114 #[.int .i64 a, .int .i64 b] w fun e w' => e = .returned (.tuple #[.int .i64 (addV a b), .bool (addB a b)]) ∧ w' = w := by
  cases ha : okB a
  · go_enter Tryz.func114, Tryz.ntmps114
    go_wp2_with (go_at_call 23; refine (okS _ _).mono ?_; rintro e w' ⟨rfl, rfl⟩)
    go_ret2
    exact ⟨by simp [addV, addB, ha], rfl⟩
  · cases hb : okB b
    · go_enter Tryz.func114, Tryz.ntmps114
      go_wp2_with (go_at_call 23; refine (okS _ _).mono ?_; rintro e w' ⟨rfl, rfl⟩)
      go_ret2
      exact ⟨by simp [addV, addB, hb], rfl⟩
    · have h1 := okB_iff.1 ha
      have h2 := okB_iff.1 hb
      cases hc : okB (a + b)
      · go_enter Tryz.func114, Tryz.ntmps114
        go_wp2_with (go_at_call 23; refine (okS _ _).mono ?_; rintro e w' ⟨rfl, rfl⟩)
        go_ret2
        exact ⟨by simp [addV, addB, hc], rfl⟩
      · go_enter Tryz.func114, Tryz.ntmps114
        go_wp2_with (go_at_call 23; refine (okS _ _).mono ?_; rintro e w' ⟨rfl, rfl⟩)
        go_ret2
        exact ⟨by simp [addV, addB, ha, hb, hc], rfl⟩

theorem timesM (a b : Int) (w : World) : Calls Tryz.prog 102 #[.int .i64 a, .int .i64 b] w fun e w' => e = .returned (.tuple #[.int .i64 (timesV a b), .bool (fitB a b)]) ∧ w' = w := by
  cases ha : okB a
  · go_enter Tryz.func102, Tryz.ntmps102
    go_wp2_with (go_at_call 72; refine (okM _ _).mono ?_; rintro e w' ⟨rfl, rfl⟩)
    go_ret2
    exact ⟨by simp [timesV, fitB, ha], rfl⟩
  · cases hb : okB b
    · go_enter Tryz.func102, Tryz.ntmps102
      go_wp2_with (go_at_call 72; refine (okM _ _).mono ?_; rintro e w' ⟨rfl, rfl⟩)
      go_ret2
      exact ⟨by simp [timesV, fitB, hb], rfl⟩
    · have h1 := okB_iff.1 ha
      have h2 := okB_iff.1 hb
      have s1 : -9223372036854775807 ≤ sz a ∧ sz a ≤ 1000000000000000 := by unfold sz; split <;> omega
      by_cases h0 : a = 0
      · subst h0
        go_enter Tryz.func102, Tryz.ntmps102
        go_wp2_with (go_at_call 72; refine (okM _ _).mono ?_; rintro e w' ⟨rfl, rfl⟩)
        go_ret2
        exact ⟨by simp [timesV, fit_zero hb], rfl⟩
      · have h0' : (a != 0) = true := by simpa using h0
        have s0 : 1 ≤ sz a := by unfold sz; split <;> omega
        by_cases hc : 1000000000000000 / sz a < sz b
        · go_enter Tryz.func102, Tryz.ntmps102
          go_wp2_with (first | (go_at_call 72; refine (okM _ _).mono ?_; rintro e w' ⟨rfl, rfl⟩) | (go_at_call 103; refine (szM _ _ (by omega) (by omega)).mono ?_; rintro e w' ⟨rfl, rfl⟩))
          go_ret2
          exact ⟨by simp [timesV, fit_no h0 hc], rfl⟩
        · have hf := fit_yes ha hb h0 hc
          have hm := (fit_ok hf).2.2
          go_enter Tryz.func102, Tryz.ntmps102
          go_wp2_with (first | (go_at_call 72; refine (okM _ _).mono ?_; rintro e w' ⟨rfl, rfl⟩) | (go_at_call 103; refine (szM _ _ (by omega) (by omega)).mono ?_; rintro e w' ⟨rfl, rfl⟩))
          go_ret2
          exact ⟨by simp [timesV, hf], rfl⟩
theorem timesI (a b : Int) (w : World) : Calls Tryz.prog 138 #[.int .i64 a, .int .i64 b] w fun e w' => e = .returned (.tuple #[.int .i64 (timesV a b), .bool (fitB a b)]) ∧ w' = w := by
  go_enter Tryz.func138, Tryz.ntmps138
  go_wp2_with (go_at_call 102; refine (timesM _ _ _).mono ?_; rintro e w' ⟨rfl, rfl⟩)
  go_ret2
  exact ⟨rfl, rfl⟩

theorem timesS (a b : Int) (w : World) : Calls Tryz.prog 55 #[.int .i64 a, .int .i64 b] w fun e w' => e = .returned (.tuple #[.int .i64 (timesV a b), .bool (fitB a b)]) ∧ w' = w := by
  cases ha : okB a
  · go_enter Tryz.func55, Tryz.ntmps55
    go_wp2_with (go_at_call 23; refine (okS _ _).mono ?_; rintro e w' ⟨rfl, rfl⟩)
    go_ret2
    exact ⟨by simp [timesV, fitB, ha], rfl⟩
  · cases hb : okB b
    · go_enter Tryz.func55, Tryz.ntmps55
      go_wp2_with (go_at_call 23; refine (okS _ _).mono ?_; rintro e w' ⟨rfl, rfl⟩)
      go_ret2
      exact ⟨by simp [timesV, fitB, hb], rfl⟩
    · have h1 := okB_iff.1 ha
      have h2 := okB_iff.1 hb
      have s1 : -9223372036854775807 ≤ sz b ∧ sz b ≤ 1000000000000000 := by unfold sz; split <;> omega
      by_cases h0 : b = 0
      · subst h0
        have hf : fitB a 0 = true := by rw [fit_comm]; exact fit_zero ha
        go_enter Tryz.func55, Tryz.ntmps55
        go_wp2_with (go_at_call 23; refine (okS _ _).mono ?_; rintro e w' ⟨rfl, rfl⟩)
        go_ret2
        exact ⟨by simp [timesV, hf], rfl⟩
      · have h0' : (b != 0) = true := by simpa using h0
        have s0 : 1 ≤ sz b := by unfold sz; split <;> omega
        by_cases hc : 1000000000000000 / sz b < sz a
        · have hf : fitB a b = false := by rw [fit_comm]; exact fit_no h0 hc
          go_enter Tryz.func55, Tryz.ntmps55
          go_wp2_with (first | (go_at_call 23; refine (okS _ _).mono ?_; rintro e w' ⟨rfl, rfl⟩) | (go_at_call 91; refine (szS _ _ (by omega) (by omega)).mono ?_; rintro e w' ⟨rfl, rfl⟩))
          go_ret2
          exact ⟨by simp [timesV, hf], rfl⟩
        · have hf : fitB a b = true := by rw [fit_comm]; exact fit_yes hb ha h0 hc
          have hm := (fit_ok hf).2.2
          go_enter Tryz.func55, Tryz.ntmps55
          go_wp2_with (first | (go_at_call 23; refine (okS _ _).mono ?_; rintro e w' ⟨rfl, rfl⟩) | (go_at_call 91; refine (szS _ _ (by omega) (by omega)).mono ?_; rintro e w' ⟨rfl, rfl⟩))
          go_ret2
          exact ⟨by simp [timesV, hf], rfl⟩
end Go.Proofs.YtnchgeiinkaefaaGreatDoor.Coin
end

section
/-
  The reader of drawn codes (spec.l18Rd): what its calls leave behind, and that each pick is in its range.
-/
namespace Go.Proofs.YtnchgeiinkaefaaGreatDoor.Draw
set_option linter.unusedVariables false
open Go.RowKit

/-- In the world W block b is a reader that has taken p bytes: at most 2000 bytes, in an elder block. -/
def Rd (W : World) (b p : Nat) : Prop := ∃ (a : Option Addr) (len cap : Nat), len ≤ 2000 ∧ W.cell? ⟨b, 0, none⟩ = some (.slice a len cap) ∧ W.cell? ⟨b, 1, none⟩ = some (.int .i64 p) ∧ W.frozen? ⟨b, 1, none⟩ = false ∧
  (len = 0 ∨ ∃ blk off, a = some ⟨blk, off, none⟩ ∧ blk < b ∧ ∀ i, i < len → ∃ c : Int, 0 ≤ c ∧ c ≤ 255 ∧ W.cell? ⟨blk, off + i, none⟩ = some (.int .u8 c))

theorem Rd.lt {W : World} {b p : Nat} (h : Rd W b p) : b < W.heap.size := by
  obtain ⟨a, len, cap, hl, h0, h1, hf, hr⟩ := h
  refine Nat.lt_of_not_le fun hn => ?_
  have : W.heap[b]? = none := by simp; omega
  simp [World.cell?, this] at h0

theorem Rd.step {w : World} {b p : Nat} (h : Rd w b p) (k : Nat) : Rd ((w.setCell ⟨b, 1, none⟩ (.int .i64 (p + 1))).drewN k) b (p + 1) := by
  obtain ⟨a, len, cap, hl, h0, h1, hf, hr⟩ := h
  refine ⟨a, len, cap, hl, ?_, ?_, ?_, ?_⟩
  · show (w.setCell ⟨b, 1, none⟩ (.int .i64 (p + 1))).cell? _ = _
    go_simp
  · show (w.setCell ⟨b, 1, none⟩ (.int .i64 (p + 1))).cell? _ = _
    go_simp
  · show (w.setCell ⟨b, 1, none⟩ (.int .i64 (p + 1))).frozen? _ = _
    go_simp
  · rcases hr with h | ⟨blk, off, e, hb, hc⟩
    · exact .inl h
    · refine .inr ⟨blk, off, e, hb, fun i hi => ?_⟩
      obtain ⟨c, c0, c1, hc⟩ := hc i hi
      refine ⟨c, c0, c1, ?_⟩
      show (w.setCell ⟨b, 1, none⟩ (.int .i64 (p + 1))).cell? _ = _
      have : blk ≠ b := by omega
      go_simp

end Go.Proofs.YtnchgeiinkaefaaGreatDoor.Draw
end

section
/-
  The reader of drawn codes: its opening, numbers of a list, words.
-/
namespace Go.Proofs.YtnchgeiinkaefaaGreatDoor.Draw
set_option linter.unusedVariables false
open Go.RowKit

theorem hide {p : Prop} (h : p) : Hid p := h
theorem unhide {p : Prop} (h : Hid p) : p := h
theorem below_drewN' {B : Nat} {a w : World} (h : Below B a w) (k : Nat) : Below B a (w.drewN k) := ⟨h.os, h.tape, h.output, h.size, h.block⟩
theorem grown_trans {a b c : World} {r : Option Nat} (h : a.grownBy b r) (k : b.grownBy c r) : a.grownBy c r :=
  ⟨k.os.trans h.os, k.tape.trans h.tape, k.output.trans h.output, Nat.le_trans h.size k.size, fun j hj hne => (k.block j (Nat.lt_of_lt_of_le hj h.size) hne).trans (h.block j hj hne)⟩
theorem grown_none {a b : World} {r : Option Nat} (h : a.grownBy b none) : a.grownBy b r := ⟨h.os, h.tape, h.output, h.size, fun j hj _ => h.block j hj (by simp)⟩
theorem grown_of_below {a b : World} (h : Below a.heap.size a b) (r : Option Nat) : a.grownBy b r := ⟨h.os, h.tape, h.output, h.size, fun j hj _ => h.block j hj⟩

/-- the reader is still what it was where only other blocks, all younger than it, have turned -/
theorem Rd.kept {w w' : World} {b p : Nat} {r : Option Nat} (h : Rd w b p) (hg : w.grownBy w' r) (hr : ∀ k, r = some k → b < k) : Rd w' b p := by
  have hb := h.lt
  have hne : ∀ j, j ≤ b → some j ≠ r := fun j hj e => by have := hr j e.symm; omega
  obtain ⟨a, len, cap, hl, h0, h1, hf, hr⟩ := h
  refine ⟨a, len, cap, hl, hg.cell h0 (hne _ (Nat.le_refl _)), hg.cell h1 (hne _ (Nat.le_refl _)), ?_, ?_⟩
  · rw [World.frozen?_of_block (hg.block b hb (hne _ (Nat.le_refl _)))]; exact hf
  · rcases hr with h | ⟨blk, off, e, hb, hc⟩
    · exact .inl h
    · refine .inr ⟨blk, off, e, hb, fun i hi => ?_⟩
      obtain ⟨c, c0, c1, hc⟩ := hc i hi
      exact ⟨c, c0, c1, hg.cell hc (hne blk (by omega))⟩

/-- bytes that came in: at most len are read -/
def Bytes (W : World) (a : Option Addr) (len cap : Nat) : Prop := len ≤ cap ∧ cap ≤ 9223372036854775807 ∧ (len = 0 ∨ ∃ blk off, a = some ⟨blk, off, none⟩ ∧ blk < W.heap.size ∧ ∀ i, i < len → ∃ c : Int, 0 ≤ c ∧ c ≤ 255 ∧ W.cell? ⟨blk, off + i, none⟩ = some (.int .u8 c))

theorem Bytes.kept {w w' : World} {a : Option Addr} {len cap : Nat} (h : Bytes w a len cap) (hb : Below w.heap.size w w') : Bytes w' a len cap := by
  obtain ⟨h1, h2, hr⟩ := h
  refine ⟨h1, h2, ?_⟩
  rcases hr with h | ⟨blk, off, e, hlt, hc⟩
  · exact .inl h
  · refine .inr ⟨blk, off, e, Nat.lt_of_lt_of_le hlt hb.size, fun i hi => ?_⟩
    obtain ⟨c, c0, c1, hc⟩ := hc i hi
    exact ⟨c, c0, c1, by rw [hb.cell (p := ⟨blk, off + i, none⟩) hlt]; exact hc⟩
theorem below_trans {w w1 w2 : World} (h : Below w.heap.size w w1) (k : Below w1.heap.size w1 w2) : Below w.heap.size w w2 := h.trans (k.mono h.size)

/-- what a draw of the reader leaves: at most q bytes more are taken, and nothing that lay there has turned but the reader -/
def Drawn (w w' : World) (b p q : Nat) : Prop := (∃ p', p' ≤ p + q ∧ Rd w' b p') ∧ w.grownBy w' (some b)

theorem Drawn.trans {w1 w2 w3 : World} {b p q : Nat} (h : w1.grownBy w2 (some b)) (k : Drawn w2 w3 b p q) : w1.grownBy w3 (some b) := grown_trans h k.2

/-- a reader that was opened in this call, and all that it did since, has turned nothing that was there before -/
theorem below_of {w w1 w2 : World} {b : Nat} (h : Below w.heap.size w w1) (hb : w.heap.size ≤ b) (hg : w1.grownBy w2 (some b)) : Below w.heap.size w w2 := h.grown hg h.size (fun k e => by injection e with e; omega)

end Go.Proofs.YtnchgeiinkaefaaGreatDoor.Draw
end

section
/-
  Words that name an event: impl.UseId and spec.UseId answer the same, and the law on them.
-/
namespace Go.Proofs.YtnchgeiinkaefaaGreatDoor.Ids
set_option linter.unusedVariables false
open Go.RowKit

theorem hide {p : Prop} (h : p) : Hid p := h
theorem unhide {p : Prop} (h : Hid p) : p := h
theorem below_trans {w w1 w2 : World} (h : Below w.heap.size w w1) (k : Below w1.heap.size w1 w2) : Below w.heap.size w w2 := h.trans (k.mono h.size)

/-- a letter or a digit -/
def signB (c : UInt8) : Prop := (97 ≤ (c.toNat : Int) ∧ (c.toNat : Int) ≤ 122) ∨ (48 ≤ (c.toNat : Int) ∧ (c.toNat : Int) ≤ 57)
instance (c : UInt8) : Decidable (signB c) := by unfold signB; infer_instance
/-- UseId -/
def idB (s : ByteArray) : Bool := decide (1 ≤ s.size ∧ s.size ≤ 8) && s.data.toList.all fun c => decide (signB c)

theorem idB_size {s : ByteArray} (h : ¬ (1 ≤ s.size ∧ s.size ≤ 8)) : idB s = false := by unfold idB; rw [decide_eq_false h]; simp
theorem idB_sign {s : ByteArray} {k : Nat} (hk : k < s.size) (h : ¬ signB s[k]) : idB s = false := by
  have : (s.data.toList.all fun c => decide (signB c)) = false := by
    rw [List.all_eq_false]
    refine ⟨s[k], ?_, ?_⟩
    · exact Array.getElem_mem_toList (xs := s.data) hk
    · rw [decide_eq_false h]; simp
  unfold idB; rw [this]; simp
theorem idB_true {s : ByteArray} (h : 1 ≤ s.size ∧ s.size ≤ 8) (hl : ∀ j (hj : j < s.size), signB s[j]) : idB s = true := by
  have : (s.data.toList.all fun c => decide (signB c)) = true := by
    rw [List.all_eq_true]
    intro c hc
    obtain ⟨j, hj, rfl⟩ := List.getElem_of_mem hc
    exact decide_eq_true (hl j (by simpa using hj))
  unfold idB; rw [this, decide_eq_true h]; simp

set_option maxHeartbeats 1000000 in
/-- spec.UseId -/
theorem idS (s : ByteArray) (w : World) (hs : s.size ≤ maxLen) : Calls Tryz.prog 50 #[.string s] w fun e w' => e = .returned (.bool (idB s)) ∧ Below w.heap.size w w' := by
  unfold maxLen at hs
  by_cases hsz : 1 ≤ s.size ∧ s.size ≤ 8
  · obtain ⟨z1, z2⟩ := hsz
    have y1 : (1 : Int) ≤ (s.size : Int) := by omega
    have y2 : (s.size : Int) ≤ 8 := by omega
    generalize hr : idB s = r
    have HR := hide hr; clear hr
    go_enter Tryz.func50, Tryz.ntmps50
    go_wp2
    go_loop [3] (fun i => ∃ k : Nat, k ≤ s.size ∧ i = .int .i64 k ∧ Hid (∀ j (hj : j < s.size), j < k → signB s[j])) (fun i => s.size - (intOf i).toNat)
    case atStart => exact ⟨0, Nat.zero_le _, rfl, hide (fun j hj h => by omega)⟩
    case round =>
      obtain ⟨k, hk, rfl, hd⟩ := hrel
      by_cases hlt : k < s.size
      · by_cases hc : signB s[k]
        · have hd' : Hid (∀ j (hj : j < s.size), j < k + 1 → signB s[j]) := hide (fun j hj h => by
            by_cases e : j < k
            · exact unhide hd j hj e
            · obtain rfl : j = k := by omega
              exact hc)
          rcases hc with ⟨a1, a2⟩ | ⟨a1, a2⟩
          · go_wp2
            exact ⟨⟨k + 1, by omega, by go_num, hd'⟩, by simp [intOf]; omega⟩
          · have a3 : (s[k].toNat : Int) < 97 := by omega
            go_wp2
            exact ⟨⟨k + 1, by omega, by go_num, hd'⟩, by simp [intOf]; omega⟩
        · have hr : r = false := (unhide HR).symm.trans (idB_sign hlt hc)
          subst hr
          simp only [signB, not_or, not_and] at hc
          by_cases h48 : (s[k].toNat : Int) < 48
          · have h97 : (s[k].toNat : Int) < 97 := by omega
            clear hc
            go_wp2
            go_ret
            exact ⟨rfl, Below.refl _ _⟩
          · by_cases h97 : (s[k].toNat : Int) < 97
            · have h57 : 57 < (s[k].toNat : Int) := by omega
              clear hc
              go_wp2
              go_ret
              exact ⟨rfl, Below.refl _ _⟩
            · have h122 : 122 < (s[k].toNat : Int) := by omega
              have h57 : 57 < (s[k].toNat : Int) := by omega
              clear hc
              go_wp2
              go_ret
              exact ⟨rfl, Below.refl _ _⟩
      · have hr : r = true := (unhide HR).symm.trans (idB_true ⟨z1, z2⟩ (fun j hj => unhide hd j hj (by omega)))
        subst hr
        go_wp2
        go_ret
        exact ⟨rfl, Below.refl _ _⟩
  · rw [idB_size hsz]
    by_cases z1 : (s.size : Int) < 1
    · go_enter Tryz.func50, Tryz.ntmps50
      go_wp2
      go_ret
      exact ⟨rfl, Below.refl _ _⟩
    · have z2 : (8 : Int) < s.size := by omega
      go_enter Tryz.func50, Tryz.ntmps50
      go_wp2
      go_ret
      exact ⟨rfl, Below.refl _ _⟩

set_option maxHeartbeats 1000000 in
/-- impl.UseId -/
theorem idI (s : ByteArray) (w : World) (hs : s.size ≤ maxLen) : Calls Tryz.prog 93 #[.string s] w fun e w' => e = .returned (.bool (idB s)) ∧ Below w.heap.size w w' := by
  unfold maxLen at hs
  by_cases hsz : 1 ≤ s.size ∧ s.size ≤ 8
  · obtain ⟨z1, z2⟩ := hsz
    have y1 : (1 : Int) ≤ (s.size : Int) := by omega
    have y2 : (s.size : Int) ≤ 8 := by omega
    generalize hr : idB s = r
    have HR := hide hr; clear hr
    go_enter Tryz.func93, Tryz.ntmps93
    go_wp2
    go_loop [16] (fun i => ∃ k : Nat, k ≤ s.size ∧ i = .int .i64 k ∧ Hid (∀ j (hj : j < s.size), j < k → signB s[j])) (fun i => s.size - (intOf i).toNat)
    case atStart => exact ⟨0, Nat.zero_le _, rfl, hide (fun j hj h => by omega)⟩
    case round =>
      obtain ⟨k, hk, rfl, hd⟩ := hrel
      by_cases hlt : k < s.size
      · by_cases hc : signB s[k]
        · have hd' : Hid (∀ j (hj : j < s.size), j < k + 1 → signB s[j]) := hide (fun j hj h => by
            by_cases e : j < k
            · exact unhide hd j hj e
            · obtain rfl : j = k := by omega
              exact hc)
          rcases hc with ⟨a1, a2⟩ | ⟨a1, a2⟩
          · have a3 : (48 : Int) ≤ s[k].toNat := by omega
            have a4 : (57 : Int) < s[k].toNat := by omega
            go_wp2
            exact ⟨⟨k + 1, by omega, by go_num, hd'⟩, by simp [intOf]; omega⟩
          · have a3 : (s[k].toNat : Int) < 97 := by omega
            go_wp2
            exact ⟨⟨k + 1, by omega, by go_num, hd'⟩, by simp [intOf]; omega⟩
        · have hr : r = false := (unhide HR).symm.trans (idB_sign hlt hc)
          subst hr
          simp only [signB, not_or, not_and] at hc
          by_cases h48 : (s[k].toNat : Int) < 48
          · have h97 : (s[k].toNat : Int) < 97 := by omega
            clear hc
            go_wp2
            go_ret
            exact ⟨rfl, Below.refl _ _⟩
          · by_cases h97 : (s[k].toNat : Int) < 97
            · have h57 : (!decide ((s[k].toNat : Int) ≤ 57)) = true := by rw [decide_eq_false (by omega)]; rfl
              clear hc
              go_wp2
              go_ret
              exact ⟨rfl, Below.refl _ _⟩
            · have h122 : (!decide ((s[k].toNat : Int) ≤ 122)) = true := by rw [decide_eq_false (by omega)]; rfl
              have h57 : (!decide ((s[k].toNat : Int) ≤ 57)) = true := by rw [decide_eq_false (by omega)]; rfl
              clear hc
              go_wp2
              go_ret
              exact ⟨rfl, Below.refl _ _⟩
      · have hr : r = true := (unhide HR).symm.trans (idB_true ⟨z1, z2⟩ (fun j hj => unhide hd j hj (by omega)))
        subst hr
        go_wp2
        go_ret
        exact ⟨rfl, Below.refl _ _⟩
  · rw [idB_size hsz]
    by_cases z1 : (s.size : Int) < 1
    · go_enter Tryz.func93, Tryz.ntmps93
      go_wp2
      go_ret
      exact ⟨rfl, Below.refl _ _⟩
    · have z2 : (8 : Int) < s.size := by omega
      go_enter Tryz.func93, Tryz.ntmps93
      go_wp2
      go_ret
      exact ⟨rfl, Below.refl _ _⟩

end Go.Proofs.YtnchgeiinkaefaaGreatDoor.Ids
end

section
/-
  CoinPart, the program's and the document's: both answer one and the same.
-/
namespace Go.Proofs.YtnchgeiinkaefaaGreatDoor.Coin
set_option linter.unusedVariables false
open Go.RowKit

theorem rndEM (q r d : Int) (w : World) (h0 : 0 ≤ q) (h0' : q ≤ 4000000000000000) (h1 : 0 ≤ r) (h2 : r < d) (h3 : d ≤ 16000000) : Calls Tryz.prog 104 #[.int .i64 q, .int .i64 r, .int .i64 d] w fun e w' => e = .returned (.int .i64 (rndE q r d)) ∧ w' = w := by
  by_cases c1 : d < 2 * r
  · go_enter Tryz.func104, Tryz.ntmps104
    go_wp2
    go_ret
    exact ⟨ret_int (rndE_up c1).symm, rfl⟩
  · by_cases c2 : 2 * r = d
    · have c2' : (2 * r == d) = true := by simpa using c2
      by_cases c3 : q % 2 = 0
      · have c3' : (q % 2 != 0) = false := by simpa using c3
        have C2 := hide c2; clear c2
        have C3 := hide c3; clear c3
        go_enter Tryz.func104, Tryz.ntmps104
        go_wp2
        go_ret
        exact ⟨ret_int (rndE_even (unhide C2) (unhide C3)).symm, rfl⟩
      · have c3' : (q % 2 != 0) = true := by simpa using c3
        have C2 := hide c2; clear c2
        go_enter Tryz.func104, Tryz.ntmps104
        go_wp2
        go_ret
        exact ⟨ret_int (rndE_tie (unhide C2) c3).symm, rfl⟩
    · have c2' : (2 * r == d) = false := by simpa using c2
      go_enter Tryz.func104, Tryz.ntmps104
      go_wp2
      go_ret
      exact ⟨ret_int (rndE_low (by omega)).symm, rfl⟩

theorem rndDM (q r d : Int) (w : World) : Calls Tryz.prog 69 #[.int .i64 q, .int .i64 r, .int .i64 d] w fun e w' => e = .returned (.int .i64 q) ∧ w' = w := by
  go_enter Tryz.func69, Tryz.ntmps69
  go_wp2
  go_ret
  exact ⟨rfl, rfl⟩

theorem timesM_yes (a b : Int) (w : World) (h : fitB a b = true) : Calls Tryz.prog 102 #[.int .i64 a, .int .i64 b] w fun e w' => e = .returned (.tuple #[.int .i64 (a * b), .bool true]) ∧ w' = w := by
  have := timesM a b w; rw [timesV_yes h, h] at this; exact this
theorem timesM_no (a b : Int) (w : World) (h : fitB a b = false) : Calls Tryz.prog 102 #[.int .i64 a, .int .i64 b] w fun e w' => e = .returned (.tuple #[.int .i64 0, .bool false]) ∧ w' = w := by
  have := timesM a b w; rw [timesV_no h, h] at this; exact this

/-- what divide answers with roundEven: the part, the rest, whether it is told -/
theorem divE_no (x n d : Int) (w : World) (h1 : 0 ≤ x) (h2 : x ≤ 1000000000000000) (hn : 0 ≤ n) (hn' : n ≤ 1000000) (hd : 1 ≤ d) (hd' : d ≤ 16000000) (fn : Value) (hf : fitB (x / d) n = false) : Calls Tryz.prog 68 #[.int .i64 x, .int .i64 n, .int .i64 d, fn] w fun e w' => e = .returned (.tuple #[.int .i64 0, .int .i64 0, .bool false]) ∧ w' = w := by
  go_enter Tryz.func68, Tryz.ntmps68
  go_wp2_with (first | (go_at_call 102; refine (timesM_no _ _ _ hf).mono ?_; rintro e w' ⟨rfl, rfl⟩))
  go_ret3
  exact ⟨rfl, rfl⟩

theorem divE_yes (x n d : Int) (w : World) (h1 : 0 ≤ x) (h2 : x ≤ 1000000000000000) (hn : 0 ≤ n) (hn' : n ≤ 1000000) (hd : 1 ≤ d) (hd' : d ≤ 16000000) (hf : fitB (x / d) n = true) (hp : okB (rndE (x / d * n + x % d * n / d) (x % d * n % d) d) = true) : Calls Tryz.prog 68 #[.int .i64 x, .int .i64 n, .int .i64 d, .func (.func 104) #[] #[]] w fun e w' => e = .returned (.tuple #[.int .i64 (rndE (x / d * n + x % d * n / d) (x % d * n % d) d), .int .i64 (x % d * n % d), .bool true]) ∧ ∃ k, w' = w.drewN k := by
  obtain ⟨f1, f2, f3, f4⟩ := fit_ok hf
  obtain ⟨p1, p2⟩ := prodBd (x := x) hn hn' hd hd'
  obtain ⟨q1, q2, q3, q4⟩ := divBd (y := x % d * n) p1 hd
  have x0 := divBd h1 hd
  have f0 : 0 ≤ x / d * n := Int.mul_nonneg x0.1 hn
  clear f1 f2 f3
  go_enter Tryz.func68, Tryz.ntmps68
  go_wp2_with (first | (go_at_call 102; refine (timesM_yes _ _ _ hf).mono ?_; rintro e w' ⟨rfl, rfl⟩))
  go_quiet ((go_at_call 104; exact Calls.quiet_of_same (rndEM _ _ _ _ (by omega) (by omega) (by omega) (by omega) (by omega))))
  go_wp2_with (first | (go_at_call 72; refine (okM _ _).mono ?_; rintro e w' ⟨rfl, rfl⟩))
  go_quiet (fail)
  go_wp2
  go_ret3
  exact ⟨rfl, _, World.drewN_drewN _ _ _⟩

theorem divE_big (x n d : Int) (w : World) (h1 : 0 ≤ x) (h2 : x ≤ 1000000000000000) (hn : 0 ≤ n) (hn' : n ≤ 1000000) (hd : 1 ≤ d) (hd' : d ≤ 16000000) (hf : fitB (x / d) n = true) (hp : okB (rndE (x / d * n + x % d * n / d) (x % d * n % d) d) = false) : Calls Tryz.prog 68 #[.int .i64 x, .int .i64 n, .int .i64 d, .func (.func 104) #[] #[]] w fun e w' => e = .returned (.tuple #[.int .i64 0, .int .i64 0, .bool false]) ∧ ∃ k, w' = w.drewN k := by
  obtain ⟨f1, f2, f3, f4⟩ := fit_ok hf
  obtain ⟨p1, p2⟩ := prodBd (x := x) hn hn' hd hd'
  obtain ⟨q1, q2, q3, q4⟩ := divBd (y := x % d * n) p1 hd
  have x0 := divBd h1 hd
  have f0 : 0 ≤ x / d * n := Int.mul_nonneg x0.1 hn
  clear f1 f2 f3
  go_enter Tryz.func68, Tryz.ntmps68
  go_wp2_with (first | (go_at_call 102; refine (timesM_yes _ _ _ hf).mono ?_; rintro e w' ⟨rfl, rfl⟩))
  go_quiet ((go_at_call 104; exact Calls.quiet_of_same (rndEM _ _ _ _ (by omega) (by omega) (by omega) (by omega) (by omega))))
  go_wp2_with (first | (go_at_call 72; refine (okM _ _).mono ?_; rintro e w' ⟨rfl, rfl⟩))
  go_ret3
  exact ⟨rfl, _, rfl⟩

theorem partI_bad (a n d : Int) (w : World) (h : okB a = false ∨ n < 0 ∨ 1000000 < n ∨ d < 1 ∨ 1000000 < d) : Calls Tryz.prog 70 #[.int .i64 a, .int .i64 n, .int .i64 d] w fun e w' => e = .returned (.tuple #[.int .i64 0, .bool false]) ∧ w' = w := by
  cases ha : okB a
  · go_enter Tryz.func70, Tryz.ntmps70
    go_wp2_with (first | (go_at_call 47; refine (okI _ _).mono ?_; rintro e w' ⟨rfl, rfl⟩))
    go_ret2
    exact ⟨rfl, rfl⟩
  · by_cases c1 : n < 0
    · go_enter Tryz.func70, Tryz.ntmps70
      go_wp2_with (first | (go_at_call 47; refine (okI _ _).mono ?_; rintro e w' ⟨rfl, rfl⟩))
      go_ret2
      exact ⟨rfl, rfl⟩
    · by_cases c2 : 1000000 < n
      · go_enter Tryz.func70, Tryz.ntmps70
        go_wp2_with (first | (go_at_call 47; refine (okI _ _).mono ?_; rintro e w' ⟨rfl, rfl⟩))
        go_ret2
        exact ⟨rfl, rfl⟩
      · by_cases c3 : d < 1
        · go_enter Tryz.func70, Tryz.ntmps70
          go_wp2_with (first | (go_at_call 47; refine (okI _ _).mono ?_; rintro e w' ⟨rfl, rfl⟩))
          go_ret2
          exact ⟨rfl, rfl⟩
        · have c4 : 1000000 < d := by rw [ha] at h; simp at h; omega
          clear h
          go_enter Tryz.func70, Tryz.ntmps70
          go_wp2_with (first | (go_at_call 47; refine (okI _ _).mono ?_; rintro e w' ⟨rfl, rfl⟩))
          go_ret2
          exact ⟨rfl, rfl⟩

theorem partI (a n d : Int) (w : World) : Calls Tryz.prog 70 #[.int .i64 a, .int .i64 n, .int .i64 d] w fun e w' => e = .returned (.tuple #[.int .i64 (partV a n d), .bool (partB a n d)]) ∧ ∃ k, w' = w.drewN k := by
  by_cases hb : okB a = false ∨ n < 0 ∨ 1000000 < n ∨ d < 1 ∨ 1000000 < d
  · have e : partB a n d = false := by
      unfold partB
      rcases hb with h | h
      · simp [h]
      · have : decide (0 ≤ n ∧ n ≤ 1000000 ∧ 1 ≤ d ∧ d ≤ 1000000) = false := by simp; omega
        rw [this]; simp
    refine (partI_bad a n d w hb).mono ?_
    rintro e' w' ⟨rfl, rfl⟩
    exact ⟨by simp [partV, e], 0, rfl⟩
  · have ha : okB a = true := by cases h : okB a <;> simp_all
    have hn : 0 ≤ n := by omega
    have hn' : n ≤ 1000000 := by omega
    have hd : 1 ≤ d := by omega
    have hd' : d ≤ 1000000 := by omega
    clear hb
    have h1 := okB_iff.1 ha
    have h2 : 0 ≤ sz a ∧ sz a ≤ 1000000000000000 := by unfold sz; split <;> omega
    have hdec : decide (0 ≤ n ∧ n ≤ 1000000 ∧ 1 ≤ d ∧ d ≤ 1000000) = true := by simp; omega
    cases hf : fitB (sz a / d) n
    · have e : partB a n d = false := by simp [partB, hf]
      have e' : partV a n d = 0 := by simp [partV, e]
      rw [e, e']
      have E := hide e; have E' := hide e'
      clear e e' hdec
      by_cases hs : a < 0
      · go_enter Tryz.func70, Tryz.ntmps70
        go_wp2_with (first | (go_at_call 47; refine (okI _ _).mono ?_; rintro e w' ⟨rfl, rfl⟩) | (go_at_call 103; refine (szM _ _ (by omega) (by omega)).mono ?_; rintro e w' ⟨rfl, rfl⟩) | (go_at_call 68; refine (divE_no _ _ _ _ (by omega) (by omega) (by omega) (by omega) (by omega) (by omega) _ hf).mono ?_; rintro e w' ⟨rfl, rfl⟩))
        go_ret2
        exact ⟨rfl, 0, rfl⟩
      · go_enter Tryz.func70, Tryz.ntmps70
        go_wp2_with (first | (go_at_call 47; refine (okI _ _).mono ?_; rintro e w' ⟨rfl, rfl⟩) | (go_at_call 103; refine (szM _ _ (by omega) (by omega)).mono ?_; rintro e w' ⟨rfl, rfl⟩) | (go_at_call 68; refine (divE_no _ _ _ _ (by omega) (by omega) (by omega) (by omega) (by omega) (by omega) _ hf).mono ?_; rintro e w' ⟨rfl, rfl⟩))
        go_ret2
        exact ⟨rfl, 0, rfl⟩
    · cases hp : okB (rndE (sz a / d * n + sz a % d * n / d) (sz a % d * n % d) d)
      · have e : partB a n d = false := by simp [partB, hp]
        have e' : partV a n d = 0 := by simp [partV, e]
        rw [e, e']
        clear e e' hdec
        by_cases hs : a < 0
        · go_enter Tryz.func70, Tryz.ntmps70
          go_wp2_with (first | (go_at_call 47; refine (okI _ _).mono ?_; rintro e w' ⟨rfl, rfl⟩) | (go_at_call 103; refine (szM _ _ (by omega) (by omega)).mono ?_; rintro e w' ⟨rfl, rfl⟩) | (go_at_call 68; refine (divE_big _ _ _ _ (by omega) (by omega) (by omega) (by omega) (by omega) (by omega) hf hp).mono ?_; rintro e w' ⟨rfl, k, rfl⟩))
          go_ret2
          exact ⟨rfl, _, rfl⟩
        · go_enter Tryz.func70, Tryz.ntmps70
          go_wp2_with (first | (go_at_call 47; refine (okI _ _).mono ?_; rintro e w' ⟨rfl, rfl⟩) | (go_at_call 103; refine (szM _ _ (by omega) (by omega)).mono ?_; rintro e w' ⟨rfl, rfl⟩) | (go_at_call 68; refine (divE_big _ _ _ _ (by omega) (by omega) (by omega) (by omega) (by omega) (by omega) hf hp).mono ?_; rintro e w' ⟨rfl, k, rfl⟩))
          go_ret2
          exact ⟨rfl, _, rfl⟩
      · have e : partB a n d = true := by simp only [partB, ha, hdec, hf, hp, Bool.and_self]
        have hb := okB_iff.1 hp
        rw [e]
        by_cases hs : a < 0
        · have e' : partV a n d = -(rndE (sz a / d * n + sz a % d * n / d) (sz a % d * n % d) d) := by simp only [partV, e, hs, if_true]
          rw [e']
          clear e e' hdec
          go_enter Tryz.func70, Tryz.ntmps70
          go_wp2_with (first | (go_at_call 47; refine (okI _ _).mono ?_; rintro e w' ⟨rfl, rfl⟩) | (go_at_call 103; refine (szM _ _ (by omega) (by omega)).mono ?_; rintro e w' ⟨rfl, rfl⟩) | (go_at_call 68; refine (divE_yes _ _ _ _ (by omega) (by omega) (by omega) (by omega) (by omega) (by omega) hf hp).mono ?_; rintro e w' ⟨rfl, k, rfl⟩))
          go_ret2
          exact ⟨rfl, _, rfl⟩
        · have e' : partV a n d = rndE (sz a / d * n + sz a % d * n / d) (sz a % d * n % d) d := by simp only [partV, e, hs, if_true, if_false]
          rw [e']
          clear e e' hdec
          go_enter Tryz.func70, Tryz.ntmps70
          go_wp2_with (first | (go_at_call 47; refine (okI _ _).mono ?_; rintro e w' ⟨rfl, rfl⟩) | (go_at_call 103; refine (szM _ _ (by omega) (by omega)).mono ?_; rintro e w' ⟨rfl, rfl⟩) | (go_at_call 68; refine (divE_yes _ _ _ _ (by omega) (by omega) (by omega) (by omega) (by omega) (by omega) hf hp).mono ?_; rintro e w' ⟨rfl, k, rfl⟩))
          go_ret2
          exact ⟨rfl, _, rfl⟩
end Go.Proofs.YtnchgeiinkaefaaGreatDoor.Coin
end

section
/-
  CoinPart as the document's model has it: it answers what the program's answers.
-/
namespace Go.Proofs.YtnchgeiinkaefaaGreatDoor.Coin
set_option linter.unusedVariables false
open Go.RowKit

theorem szS_pos (r : Int) (w : World) (h : 0 ≤ r) (h' : r ≤ 9223372036854775807) : Calls Tryz.prog 91 #[.int .i64 r] w fun e w' => e = .returned (.int .i64 r) ∧ w' = w := by
  have t := szS r w (by omega) (by omega)
  rw [sz_pos h] at t; exact t
theorem szS_neg (r : Int) (w : World) (h : 0 ≤ r) (h' : r ≤ 9223372036854775807) : Calls Tryz.prog 91 #[.int .i64 (-r)] w fun e w' => e = .returned (.int .i64 r) ∧ w' = w := by
  have t := szS (-r) w (by omega) (by omega)
  have e : sz (-r) = r := by unfold sz; split <;> omega
  rw [e] at t; exact t

/-- l1Round where nothing is below 0 -/
theorem roundS_pos (q r d : Int) (w : World) (h0 : 0 ≤ q) (h0' : q ≤ 4000000000000000) (h1 : 0 ≤ r) (h2 : r < d) (h3 : d ≤ 16000000) : Calls Tryz.prog 56 #[.int .i64 q, .int .i64 r, .int .i64 d] w fun e w' => e = .returned (.int .i64 (rndE q r d)) ∧ w' = w := by
  by_cases c1 : d < 2 * r
  · go_enter Tryz.func56, Tryz.ntmps56
    go_wp2_with (first | (go_at_call 91; refine (szS_pos _ _ (by omega) (by omega)).mono ?_; rintro e w' ⟨rfl, rfl⟩))
    go_ret
    exact ⟨ret_int (rndE_up c1).symm, rfl⟩
  · by_cases c2 : 2 * r = d
    · have c2' : (2 * r == d) = true := by simpa using c2
      by_cases c3 : q % 2 = 0
      · have c3' : (q % 2 != 0) = false := by simpa using c3
        have C2 := hide c2; clear c2
        have C3 := hide c3; clear c3
        go_enter Tryz.func56, Tryz.ntmps56
        go_wp2_with (first | (go_at_call 91; refine (szS_pos _ _ (by omega) (by omega)).mono ?_; rintro e w' ⟨rfl, rfl⟩))
        go_ret
        exact ⟨ret_int (rndE_even (unhide C2) (unhide C3)).symm, rfl⟩
      · have c3' : (q % 2 != 0) = true := by simpa using c3
        have C2 := hide c2; clear c2
        go_enter Tryz.func56, Tryz.ntmps56
        go_wp2_with (first | (go_at_call 91; refine (szS_pos _ _ (by omega) (by omega)).mono ?_; rintro e w' ⟨rfl, rfl⟩))
        go_ret
        exact ⟨ret_int (rndE_tie (unhide C2) c3).symm, rfl⟩
    · have c2' : (2 * r == d) = false := by simpa using c2
      go_enter Tryz.func56, Tryz.ntmps56
      go_wp2_with (first | (go_at_call 91; refine (szS_pos _ _ (by omega) (by omega)).mono ?_; rintro e w' ⟨rfl, rfl⟩))
      go_ret
      exact ⟨ret_int (rndE_low (by omega)).symm, rfl⟩

theorem tmod_neg (q : Int) (h : 0 ≤ q) : (-q).tmod 2 = -(q % 2) := by
  rw [Int.neg_tmod, Int.tmod_eq_emod_of_nonneg h]

/-- l1Round where nothing is above 0 -/
theorem roundS_neg (q r d : Int) (w : World) (h0 : 0 ≤ q) (h0' : q ≤ 4000000000000000) (h1 : 0 ≤ r) (h2 : r < d) (h3 : d ≤ 16000000) : Calls Tryz.prog 56 #[.int .i64 (-q), .int .i64 (-r), .int .i64 d] w fun e w' => e = .returned (.int .i64 (-(rndE q r d))) ∧ w' = w := by
  have tm := tmod_neg q h0
  by_cases c1 : d < 2 * r
  · go_enter Tryz.func56, Tryz.ntmps56
    go_wp2_with (first | (go_at_call 91; refine (szS_neg _ _ (by omega) (by omega)).mono ?_; rintro e w' ⟨rfl, rfl⟩))
    go_ret
    exact ⟨ret_int (by rw [rndE_up c1]; omega), rfl⟩
  · by_cases c2 : 2 * r = d
    · have c2' : (2 * r == d) = true := by simpa using c2
      by_cases c3 : q % 2 = 0
      · have c3' : (-(q % 2) != 0) = false := by simp; omega
        have C2 := hide c2; clear c2
        have C3 := hide c3; clear c3
        go_enter Tryz.func56, Tryz.ntmps56
        go_wp2_with (first | (go_at_call 91; refine (szS_neg _ _ (by omega) (by omega)).mono ?_; rintro e w' ⟨rfl, rfl⟩))
        go_ret
        exact ⟨ret_int (by rw [rndE_even (unhide C2) (unhide C3)]), rfl⟩
      · have c3' : (-(q % 2) != 0) = true := by simp; omega
        have hr : 0 < r := by omega
        have C2 := hide c2; clear c2
        go_enter Tryz.func56, Tryz.ntmps56
        go_wp2_with (first | (go_at_call 91; refine (szS_neg _ _ (by omega) (by omega)).mono ?_; rintro e w' ⟨rfl, rfl⟩))
        go_ret
        exact ⟨ret_int (by rw [rndE_tie (unhide C2) c3]; omega), rfl⟩
    · have c2' : (2 * r == d) = false := by simpa using c2
      go_enter Tryz.func56, Tryz.ntmps56
      go_wp2_with (first | (go_at_call 91; refine (szS_neg _ _ (by omega) (by omega)).mono ?_; rintro e w' ⟨rfl, rfl⟩))
      go_ret
      exact ⟨ret_int (by rw [rndE_low (by omega)]), rfl⟩
theorem timesS_yes (a b : Int) (w : World) (h : fitB a b = true) : Calls Tryz.prog 55 #[.int .i64 a, .int .i64 b] w fun e w' => e = .returned (.tuple #[.int .i64 (a * b), .bool true]) ∧ w' = w := by
  have := timesS a b w; rw [timesV_yes h, h] at this; exact this
theorem timesS_no (a b : Int) (w : World) (h : fitB a b = false) : Calls Tryz.prog 55 #[.int .i64 a, .int .i64 b] w fun e w' => e = .returned (.tuple #[.int .i64 0, .bool false]) ∧ w' = w := by
  have := timesS a b w; rw [timesV_no h, h] at this; exact this
theorem fit_neg (a b : Int) : fitB (-a) b = fitB a b := by
  have h1 : okB (-a) = okB a := by unfold okB; congr 1; apply propext; omega
  have h2 : sz (-a) = sz a := by unfold sz; split <;> split <;> omega
  unfold fitB; rw [h1, h2]
theorem timesS_yesN (a b : Int) (w : World) (h : fitB a b = true) : Calls Tryz.prog 55 #[.int .i64 (-a), .int .i64 b] w fun e w' => e = .returned (.tuple #[.int .i64 (-(a * b)), .bool true]) ∧ w' = w := by
  have := timesS_yes (-a) b w (by rw [fit_neg]; exact h); rw [Int.neg_mul] at this; exact this
theorem timesS_noN (a b : Int) (w : World) (h : fitB a b = false) : Calls Tryz.prog 55 #[.int .i64 (-a), .int .i64 b] w fun e w' => e = .returned (.tuple #[.int .i64 0, .bool false]) ∧ w' = w :=
  timesS_no (-a) b w (by rw [fit_neg]; exact h)

theorem partS_bad (a n d : Int) (w : World) (h : okB a = false ∨ n < 0 ∨ 1000000 < n ∨ d < 1 ∨ 1000000 < d) : Calls Tryz.prog 38 #[.int .i64 a, .int .i64 n, .int .i64 d] w fun e w' => e = .returned (.tuple #[.int .i64 0, .bool false]) ∧ w' = w := by
  cases ha : okB a
  · go_enter Tryz.func38, Tryz.ntmps38
    go_wp2_with (first | (go_at_call 23; refine (okS _ _).mono ?_; rintro e w' ⟨rfl, rfl⟩))
    go_ret2
    exact ⟨rfl, rfl⟩
  · by_cases c1 : n < 0
    · go_enter Tryz.func38, Tryz.ntmps38
      go_wp2_with (first | (go_at_call 23; refine (okS _ _).mono ?_; rintro e w' ⟨rfl, rfl⟩))
      go_ret2
      exact ⟨rfl, rfl⟩
    · by_cases c2 : 1000000 < n
      · go_enter Tryz.func38, Tryz.ntmps38
        go_wp2_with (first | (go_at_call 23; refine (okS _ _).mono ?_; rintro e w' ⟨rfl, rfl⟩))
        go_ret2
        exact ⟨rfl, rfl⟩
      · by_cases c3 : d < 1
        · go_enter Tryz.func38, Tryz.ntmps38
          go_wp2_with (first | (go_at_call 23; refine (okS _ _).mono ?_; rintro e w' ⟨rfl, rfl⟩))
          go_ret2
          exact ⟨rfl, rfl⟩
        · have c4 : 1000000 < d := by rw [ha] at h; simp at h; omega
          clear h
          go_enter Tryz.func38, Tryz.ntmps38
          go_wp2_with (first | (go_at_call 23; refine (okS _ _).mono ?_; rintro e w' ⟨rfl, rfl⟩))
          go_ret2
          exact ⟨rfl, rfl⟩

/-- the document's CoinPart at an amount x not below 0 -/
theorem partS_pos (x n d : Int) (w : World) (h1 : 0 ≤ x) (h2 : x ≤ 1000000000000000) (hn : 0 ≤ n) (hn' : n ≤ 1000000) (hd : 1 ≤ d) (hd' : d ≤ 1000000) (hf : fitB (x / d) n = true) : Calls Tryz.prog 38 #[.int .i64 x, .int .i64 n, .int .i64 d] w fun e w' => e = .returned (.tuple #[.int .i64 (if okB (rndE (x / d * n + x % d * n / d) (x % d * n % d) d) = true then rndE (x / d * n + x % d * n / d) (x % d * n % d) d else 0), .bool (okB (rndE (x / d * n + x % d * n / d) (x % d * n % d) d))]) ∧ ∃ k, w' = w.drewN k := by
  obtain ⟨f1, f2, f3, f4⟩ := fit_ok hf
  obtain ⟨p1, p2⟩ := prodBd (x := x) hn hn' hd (by omega)
  obtain ⟨q1, q2, q3, q4⟩ := divBd (y := x % d * n) p1 hd
  have x0 := divBd h1 hd
  have f0 : 0 ≤ x / d * n := Int.mul_nonneg x0.1 hn
  have ha := okB_true (n := x) (by omega)
  clear f1 f2 f3
  cases hp : okB (rndE (x / d * n + x % d * n / d) (x % d * n % d) d)
  · go_enter Tryz.func38, Tryz.ntmps38
    go_wp2_with (first | (go_at_call 23; refine (okS _ _).mono ?_; rintro e w' ⟨rfl, rfl⟩) | (go_at_call 55; refine (timesS_yes _ _ _ hf).mono ?_; rintro e w' ⟨rfl, rfl⟩))
    go_quiet ((go_at_call 56; exact Calls.quiet_of_same (roundS_pos _ _ _ _ (by omega) (by omega) (by omega) (by omega) (by omega))))
    go_wp2_with (first | (go_at_call 23; refine (okS _ _).mono ?_; rintro e w' ⟨rfl, rfl⟩))
    go_ret2
    exact ⟨rfl, _, rfl⟩
  · go_enter Tryz.func38, Tryz.ntmps38
    go_wp2_with (first | (go_at_call 23; refine (okS _ _).mono ?_; rintro e w' ⟨rfl, rfl⟩) | (go_at_call 55; refine (timesS_yes _ _ _ hf).mono ?_; rintro e w' ⟨rfl, rfl⟩))
    go_quiet ((go_at_call 56; exact Calls.quiet_of_same (roundS_pos _ _ _ _ (by omega) (by omega) (by omega) (by omega) (by omega))))
    go_wp2_with (first | (go_at_call 23; refine (okS _ _).mono ?_; rintro e w' ⟨rfl, rfl⟩))
    go_ret2
    exact ⟨rfl, _, rfl⟩

theorem roundS_neg' (q' r' q r d : Int) (w : World) (hq : q' = -q) (hr : r' = -r) (h0 : 0 ≤ q) (h0' : q ≤ 4000000000000000) (h1 : 0 ≤ r) (h2 : r < d) (h3 : d ≤ 16000000) : Calls Tryz.prog 56 #[.int .i64 q', .int .i64 r', .int .i64 d] w fun e w' => e = .returned (.int .i64 (-(rndE q r d))) ∧ w' = w := by
  subst hq hr; exact roundS_neg q r d w h0 h0' h1 h2 h3

theorem tdiv_neg (x d : Int) (h : 0 ≤ x) : (-x).tdiv d = -(x / d) := by rw [Int.neg_tdiv, Int.tdiv_eq_ediv_of_nonneg h]
theorem tmod_neg' (x d : Int) (h : 0 ≤ x) : (-x).tmod d = -(x % d) := by rw [Int.neg_tmod, Int.tmod_eq_emod_of_nonneg h]

/-- the document's CoinPart at an amount below 0 -/
theorem partS_neg (x n d : Int) (w : World) (h1 : 1 ≤ x) (h2 : x ≤ 1000000000000000) (hn : 0 ≤ n) (hn' : n ≤ 1000000) (hd : 1 ≤ d) (hd' : d ≤ 1000000) (hf : fitB (x / d) n = true) : Calls Tryz.prog 38 #[.int .i64 (-x), .int .i64 n, .int .i64 d] w fun e w' => e = .returned (.tuple #[.int .i64 (if okB (rndE (x / d * n + x % d * n / d) (x % d * n % d) d) = true then -(rndE (x / d * n + x % d * n / d) (x % d * n % d) d) else 0), .bool (okB (rndE (x / d * n + x % d * n / d) (x % d * n % d) d))]) ∧ ∃ k, w' = w.drewN k := by
  obtain ⟨f1, f2, f3, f4⟩ := fit_ok hf
  obtain ⟨p1, p2⟩ := prodBd (x := x) hn hn' hd (by omega)
  obtain ⟨q1, q2, q3, q4⟩ := divBd (y := x % d * n) p1 hd
  have x0 := divBd (y := x) (by omega) hd
  have f0 : 0 ≤ x / d * n := Int.mul_nonneg x0.1 hn
  have ha := okB_true (n := -x) (by omega)
  have t1 := tdiv_neg x d (by omega)
  have t2 := tmod_neg' x d (by omega)
  have t3 : -(x % d) * n = -(x % d * n) := Int.neg_mul _ _
  have t4 := tdiv_neg (x % d * n) d p1
  have t5 := tmod_neg' (x % d * n) d p1
  have t6 := okB_neg (rndE (x / d * n + x % d * n / d) (x % d * n % d) d)
  clear f1 f2 f3
  cases hp : okB (rndE (x / d * n + x % d * n / d) (x % d * n % d) d)
  · rw [hp] at t6
    go_enter Tryz.func38, Tryz.ntmps38
    go_wp2_with (first | (go_at_call 23; refine (okS _ _).mono ?_; rintro e w' ⟨rfl, rfl⟩) | (go_at_call 55; refine (timesS_yesN _ _ _ hf).mono ?_; rintro e w' ⟨rfl, rfl⟩))
    go_quiet ((go_at_call 56; exact Calls.quiet_of_same (roundS_neg' _ _ (x / d * n + x % d * n / d) (x % d * n % d) _ _ (by omega) (by omega) (by omega) (by omega) (by omega) (by omega) (by omega))))
    go_wp2_with (first | (go_at_call 23; refine (okS _ _).mono ?_; rintro e w' ⟨rfl, rfl⟩))
    go_ret2
    exact ⟨rfl, _, rfl⟩
  · rw [hp] at t6
    go_enter Tryz.func38, Tryz.ntmps38
    go_wp2_with (first | (go_at_call 23; refine (okS _ _).mono ?_; rintro e w' ⟨rfl, rfl⟩) | (go_at_call 55; refine (timesS_yesN _ _ _ hf).mono ?_; rintro e w' ⟨rfl, rfl⟩))
    go_quiet ((go_at_call 56; exact Calls.quiet_of_same (roundS_neg' _ _ (x / d * n + x % d * n / d) (x % d * n % d) _ _ (by omega) (by omega) (by omega) (by omega) (by omega) (by omega) (by omega))))
    go_wp2_with (first | (go_at_call 23; refine (okS _ _).mono ?_; rintro e w' ⟨rfl, rfl⟩))
    go_ret2
    exact ⟨rfl, _, rfl⟩

theorem partS_noP (x n d : Int) (w : World) (h1 : 0 ≤ x) (h2 : x ≤ 1000000000000000) (hn : 0 ≤ n) (hn' : n ≤ 1000000) (hd : 1 ≤ d) (hd' : d ≤ 1000000) (hf : fitB (x / d) n = false) : Calls Tryz.prog 38 #[.int .i64 x, .int .i64 n, .int .i64 d] w fun e w' => e = .returned (.tuple #[.int .i64 0, .bool false]) ∧ w' = w := by
  have ha := okB_true (n := x) (by omega)
  go_enter Tryz.func38, Tryz.ntmps38
  go_wp2_with (first | (go_at_call 23; refine (okS _ _).mono ?_; rintro e w' ⟨rfl, rfl⟩) | (go_at_call 55; refine (timesS_no _ _ _ hf).mono ?_; rintro e w' ⟨rfl, rfl⟩))
  go_ret2
  exact ⟨rfl, rfl⟩
theorem partS_noN (x n d : Int) (w : World) (h1 : 1 ≤ x) (h2 : x ≤ 1000000000000000) (hn : 0 ≤ n) (hn' : n ≤ 1000000) (hd : 1 ≤ d) (hd' : d ≤ 1000000) (hf : fitB (x / d) n = false) : Calls Tryz.prog 38 #[.int .i64 (-x), .int .i64 n, .int .i64 d] w fun e w' => e = .returned (.tuple #[.int .i64 0, .bool false]) ∧ w' = w := by
  have ha := okB_true (n := -x) (by omega)
  have x0 := divBd (y := x) (by omega) hd
  have t1 := tdiv_neg x d (by omega)
  go_enter Tryz.func38, Tryz.ntmps38
  go_wp2_with (first | (go_at_call 23; refine (okS _ _).mono ?_; rintro e w' ⟨rfl, rfl⟩) | (go_at_call 55; refine (timesS_noN _ _ _ hf).mono ?_; rintro e w' ⟨rfl, rfl⟩))
  go_ret2
  exact ⟨rfl, rfl⟩

theorem partS (a n d : Int) (w : World) : Calls Tryz.prog 38 #[.int .i64 a, .int .i64 n, .int .i64 d] w fun e w' => e = .returned (.tuple #[.int .i64 (partV a n d), .bool (partB a n d)]) ∧ ∃ k, w' = w.drewN k := by
  by_cases hb : okB a = false ∨ n < 0 ∨ 1000000 < n ∨ d < 1 ∨ 1000000 < d
  · have e : partB a n d = false := by
      unfold partB
      rcases hb with h | h
      · simp [h]
      · have : decide (0 ≤ n ∧ n ≤ 1000000 ∧ 1 ≤ d ∧ d ≤ 1000000) = false := by simp; omega
        rw [this]; simp
    refine (partS_bad a n d w hb).mono ?_
    rintro e' w' ⟨rfl, rfl⟩
    exact ⟨by simp [partV, e], 0, rfl⟩
  · have ha : okB a = true := by cases h : okB a <;> simp_all
    have hn : 0 ≤ n := by omega
    have hn' : n ≤ 1000000 := by omega
    have hd : 1 ≤ d := by omega
    have hd' : d ≤ 1000000 := by omega
    clear hb
    have h1 := okB_iff.1 ha
    have hdec : decide (0 ≤ n ∧ n ≤ 1000000 ∧ 1 ≤ d ∧ d ≤ 1000000) = true := by simp; omega
    by_cases hs : a < 0
    · have hz : sz a = -a := sz_neg hs
      obtain ⟨x, rfl⟩ : ∃ x, a = -x := ⟨-a, by omega⟩
      rw [Int.neg_neg] at hz
      cases hf : fitB (x / d) n
      · refine (partS_noN x n d w (by omega) (by omega) hn hn' hd hd' hf).mono ?_
        rintro e' w' ⟨rfl, rfl⟩
        have e : partB (-x) n d = false := by simp [partB, hz, hf]
        exact ⟨by simp [partV, e], 0, rfl⟩
      · refine (partS_neg x n d w (by omega) (by omega) hn hn' hd hd' hf).mono ?_
        rintro e' w' ⟨rfl, k, rfl⟩
        have e : partB (-x) n d = okB (rndE (x / d * n + x % d * n / d) (x % d * n % d) d) := by simp only [partB, hz, hf, ha, hdec, Bool.true_and]
        refine ⟨?_, k, rfl⟩
        unfold partV
        rw [e, hz, if_pos hs]
    · have hz : sz a = a := sz_pos (by omega)
      cases hf : fitB (a / d) n
      · refine (partS_noP a n d w (by omega) (by omega) hn hn' hd hd' hf).mono ?_
        rintro e' w' ⟨rfl, rfl⟩
        have e : partB a n d = false := by simp [partB, hz, hf]
        exact ⟨by simp [partV, e], 0, rfl⟩
      · refine (partS_pos a n d w (by omega) (by omega) hn hn' hd hd' hf).mono ?_
        rintro e' w' ⟨rfl, k, rfl⟩
        have e : partB a n d = okB (rndE (a / d * n + a % d * n / d) (a % d * n % d) d) := by simp only [partB, hz, hf, ha, hdec, Bool.true_and]
        refine ⟨?_, k, rfl⟩
        unfold partV
        rw [e, hz, if_neg hs]
end Go.Proofs.YtnchgeiinkaefaaGreatDoor.Coin
end
