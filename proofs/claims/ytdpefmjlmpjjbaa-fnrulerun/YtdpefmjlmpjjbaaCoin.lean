/-
  What the functions of chapter 1 on single amounts answer (the program's and the document's own), function by function.
-/
import Derived.Test.YtdpefmjlmpjjbaaProg
import Derived.Test.YtdpefmjlmpjjbaaCoinMath
import Derived.WalkKit
import Derived.WalkLawsBesides
import Derived.Below
namespace Go.Proofs.Ytdpefmjlmpjjbaa.Coin
set_option linter.unusedVariables false
open Go.RowKit

theorem hide {p : Prop} (h : p) : Hid p := h
theorem unhide {p : Prop} (h : Hid p) : p := h.out
theorem ret_int {k : IntKind} {a b : Int} (h : a = b) : Ending.returned (.int k a) = .returned (.int k b) := by rw [h]
theorem ret_bool {a b : Bool} (h : a = b) : Ending.returned (.bool a) = .returned (.bool b) := by rw [h]
theorem ret_ib {k : IntKind} {a b : Int} {c d : Bool} (h : a = b) (h' : c = d) : Ending.returned (.tuple #[.int k a, .bool c]) = .returned (.tuple #[.int k b, .bool d]) := by rw [h, h']

theorem okM (a : Int) (w : World) : Calls Try.prog 16 #[.int .i64 a] w fun e w' => e = .returned (.bool (okB a)) ∧ w' = w := by
  by_cases h1 : -1000000000000000 ≤ a
  · by_cases h2 : a ≤ 1000000000000000
    · go_enter Try.func16, Try.ntmps16
      go_wp2
      go_ret
      exact ⟨ret_bool (okB_true ⟨h1, h2⟩).symm, rfl⟩
    · go_enter Try.func16, Try.ntmps16
      go_wp2
      go_ret
      exact ⟨ret_bool (okB_false (by omega)).symm, rfl⟩
  · go_enter Try.func16, Try.ntmps16
    go_wp2
    go_ret
    exact ⟨ret_bool (okB_false (by omega)).symm, rfl⟩

theorem okI (a : Int) (w : World) : Calls Try.prog 7 #[.int .i64 a] w fun e w' => e = .returned (.bool (okB a)) ∧ w' = w := by
  go_enter Try.func7, Try.ntmps7
  go_wp2_with (go_at_call 16; refine (okM _ _).mono ?_; rintro e w' ⟨rfl, rfl⟩)
  go_ret
  exact ⟨rfl, rfl⟩

theorem okS (a : Int) (w : World) : Calls Try.prog 25 #[.int .i64 a] w fun e w' => e = .returned (.bool (okB a)) ∧ w' = w := by
  by_cases h1 : -1000000000000000 ≤ a
  · by_cases h2 : a ≤ 1000000000000000
    · go_enter Try.func25, Try.ntmps25
      go_wp2
      go_ret
      exact ⟨ret_bool (okB_true ⟨h1, h2⟩).symm, rfl⟩
    · go_enter Try.func25, Try.ntmps25
      go_wp2
      go_ret
      exact ⟨ret_bool (okB_false (by omega)).symm, rfl⟩
  · go_enter Try.func25, Try.ntmps25
    go_wp2
    go_ret
    exact ⟨ret_bool (okB_false (by omega)).symm, rfl⟩

theorem szM (a : Int) (w : World) (h : -9223372036854775807 ≤ a) (h' : a ≤ 9223372036854775807) : Calls Try.prog 45 #[.int .i64 a] w fun e w' => e = .returned (.int .i64 (sz a)) ∧ w' = w := by
  by_cases h1 : a < 0
  · go_enter Try.func45, Try.ntmps45
    go_wp2
    go_ret
    exact ⟨ret_int (sz_neg h1).symm, rfl⟩
  · go_enter Try.func45, Try.ntmps45
    go_wp2
    go_ret
    exact ⟨ret_int (sz_pos (by omega)).symm, rfl⟩

theorem szS (a : Int) (w : World) (h : -9223372036854775807 ≤ a) (h' : a ≤ 9223372036854775807) : Calls Try.prog 44 #[.int .i64 a] w fun e w' => e = .returned (.int .i64 (sz a)) ∧ w' = w := by
  by_cases h1 : a < 0
  · go_enter Try.func44, Try.ntmps44
    go_wp2
    go_ret
    exact ⟨ret_int (sz_neg h1).symm, rfl⟩
  · go_enter Try.func44, Try.ntmps44
    go_wp2
    go_ret
    exact ⟨ret_int (sz_pos (by omega)).symm, rfl⟩

theorem plusM (a b : Int) (w : World) : Calls Try.prog 40 #[.int .i64 a, .int .i64 b] w fun e w' => e = .returned (.tuple #[.int .i64 (addV a b), .bool (addB a b)]) ∧ w' = w := by
  cases ha : okB a
  · go_enter Try.func40, Try.ntmps40
    go_wp2_with (go_at_call 16; refine (okM _ _).mono ?_; rintro e w' ⟨rfl, rfl⟩)
    go_ret2
    exact ⟨by simp [addV, addB, ha], rfl⟩
  · cases hb : okB b
    · go_enter Try.func40, Try.ntmps40
      go_wp2_with (go_at_call 16; refine (okM _ _).mono ?_; rintro e w' ⟨rfl, rfl⟩)
      go_ret2
      exact ⟨by simp [addV, addB, hb], rfl⟩
    · have h1 := okB_iff.1 ha
      have h2 := okB_iff.1 hb
      cases hc : okB (a + b)
      · go_enter Try.func40, Try.ntmps40
        go_wp2_with (go_at_call 16; refine (okM _ _).mono ?_; rintro e w' ⟨rfl, rfl⟩)
        go_ret2
        exact ⟨by simp [addV, addB, hc], rfl⟩
      · go_enter Try.func40, Try.ntmps40
        go_wp2_with (go_at_call 16; refine (okM _ _).mono ?_; rintro e w' ⟨rfl, rfl⟩)
        go_ret2
        exact ⟨by simp [addV, addB, ha, hb, hc], rfl⟩

theorem addI (a b : Int) (w : World) : Calls Try.prog 30 #[.int .i64 a, .int .i64 b] w fun e w' => e = .returned (.tuple #[.int .i64 (addV a b), .bool (addB a b)]) ∧ w' = w := by
  go_enter Try.func30, Try.ntmps30
  go_wp2_with (go_at_call 40; refine (plusM _ _ _).mono ?_; rintro e w' ⟨rfl, rfl⟩)
  go_ret2
  exact ⟨rfl, rfl⟩

theorem addS (a b : Int) (w : World) : Calls Try.prog 39 #[.int .i64 a, .int .i64 b] w fun e w' => e = .returned (.tuple #[.int .i64 (addV a b), .bool (addB a b)]) ∧ w' = w := by
  cases ha : okB a
  · go_enter Try.func39, Try.ntmps39
    go_wp2_with (go_at_call 25; refine (okS _ _).mono ?_; rintro e w' ⟨rfl, rfl⟩)
    go_ret2
    exact ⟨by simp [addV, addB, ha], rfl⟩
  · cases hb : okB b
    · go_enter Try.func39, Try.ntmps39
      go_wp2_with (go_at_call 25; refine (okS _ _).mono ?_; rintro e w' ⟨rfl, rfl⟩)
      go_ret2
      exact ⟨by simp [addV, addB, hb], rfl⟩
    · have h1 := okB_iff.1 ha
      have h2 := okB_iff.1 hb
      cases hc : okB (a + b)
      · go_enter Try.func39, Try.ntmps39
        go_wp2_with (go_at_call 25; refine (okS _ _).mono ?_; rintro e w' ⟨rfl, rfl⟩)
        go_ret2
        exact ⟨by simp [addV, addB, hc], rfl⟩
      · go_enter Try.func39, Try.ntmps39
        go_wp2_with (go_at_call 25; refine (okS _ _).mono ?_; rintro e w' ⟨rfl, rfl⟩)
        go_ret2
        exact ⟨by simp [addV, addB, ha, hb, hc], rfl⟩

theorem timesM (a b : Int) (w : World) : Calls Try.prog 41 #[.int .i64 a, .int .i64 b] w fun e w' => e = .returned (.tuple #[.int .i64 (timesV a b), .bool (fitB a b)]) ∧ w' = w := by
  cases ha : okB a
  · go_enter Try.func41, Try.ntmps41
    go_wp2_with (go_at_call 16; refine (okM _ _).mono ?_; rintro e w' ⟨rfl, rfl⟩)
    go_ret2
    exact ⟨by simp [timesV, fitB, ha], rfl⟩
  · cases hb : okB b
    · go_enter Try.func41, Try.ntmps41
      go_wp2_with (go_at_call 16; refine (okM _ _).mono ?_; rintro e w' ⟨rfl, rfl⟩)
      go_ret2
      exact ⟨by simp [timesV, fitB, hb], rfl⟩
    · have h1 := okB_iff.1 ha
      have h2 := okB_iff.1 hb
      have s1 : -9223372036854775807 ≤ sz a ∧ sz a ≤ 1000000000000000 := by unfold sz; split <;> omega
      by_cases h0 : a = 0
      · subst h0
        go_enter Try.func41, Try.ntmps41
        go_wp2_with (go_at_call 16; refine (okM _ _).mono ?_; rintro e w' ⟨rfl, rfl⟩)
        go_ret2
        exact ⟨by simp [timesV, fit_zero hb], rfl⟩
      · have h0' : (a != 0) = true := by simpa using h0
        have s0 : 1 ≤ sz a := by unfold sz; split <;> omega
        by_cases hc : 1000000000000000 / sz a < sz b
        · go_enter Try.func41, Try.ntmps41
          go_wp2_with (first | (go_at_call 16; refine (okM _ _).mono ?_; rintro e w' ⟨rfl, rfl⟩) | (go_at_call 45; refine (szM _ _ (by omega) (by omega)).mono ?_; rintro e w' ⟨rfl, rfl⟩))
          go_ret2
          exact ⟨by simp [timesV, fit_no h0 hc], rfl⟩
        · have hf := fit_yes ha hb h0 hc
          have hm := (fit_ok hf).2.2
          go_enter Try.func41, Try.ntmps41
          go_wp2_with (first | (go_at_call 16; refine (okM _ _).mono ?_; rintro e w' ⟨rfl, rfl⟩) | (go_at_call 45; refine (szM _ _ (by omega) (by omega)).mono ?_; rintro e w' ⟨rfl, rfl⟩))
          go_ret2
          exact ⟨by simp [timesV, hf], rfl⟩
theorem timesI (a b : Int) (w : World) : Calls Try.prog 32 #[.int .i64 a, .int .i64 b] w fun e w' => e = .returned (.tuple #[.int .i64 (timesV a b), .bool (fitB a b)]) ∧ w' = w := by
  go_enter Try.func32, Try.ntmps32
  go_wp2_with (go_at_call 41; refine (timesM _ _ _).mono ?_; rintro e w' ⟨rfl, rfl⟩)
  go_ret2
  exact ⟨rfl, rfl⟩

theorem timesS (a b : Int) (w : World) : Calls Try.prog 36 #[.int .i64 a, .int .i64 b] w fun e w' => e = .returned (.tuple #[.int .i64 (timesV a b), .bool (fitB a b)]) ∧ w' = w := by
  cases ha : okB a
  · go_enter Try.func36, Try.ntmps36
    go_wp2_with (go_at_call 25; refine (okS _ _).mono ?_; rintro e w' ⟨rfl, rfl⟩)
    go_ret2
    exact ⟨by simp [timesV, fitB, ha], rfl⟩
  · cases hb : okB b
    · go_enter Try.func36, Try.ntmps36
      go_wp2_with (go_at_call 25; refine (okS _ _).mono ?_; rintro e w' ⟨rfl, rfl⟩)
      go_ret2
      exact ⟨by simp [timesV, fitB, hb], rfl⟩
    · have h1 := okB_iff.1 ha
      have h2 := okB_iff.1 hb
      have s1 : -9223372036854775807 ≤ sz b ∧ sz b ≤ 1000000000000000 := by unfold sz; split <;> omega
      by_cases h0 : b = 0
      · subst h0
        have hf : fitB a 0 = true := by rw [fit_comm]; exact fit_zero ha
        go_enter Try.func36, Try.ntmps36
        go_wp2_with (go_at_call 25; refine (okS _ _).mono ?_; rintro e w' ⟨rfl, rfl⟩)
        go_ret2
        exact ⟨by simp [timesV, hf], rfl⟩
      · have h0' : (b != 0) = true := by simpa using h0
        have s0 : 1 ≤ sz b := by unfold sz; split <;> omega
        by_cases hc : 1000000000000000 / sz b < sz a
        · have hf : fitB a b = false := by rw [fit_comm]; exact fit_no h0 hc
          go_enter Try.func36, Try.ntmps36
          go_wp2_with (first | (go_at_call 25; refine (okS _ _).mono ?_; rintro e w' ⟨rfl, rfl⟩) | (go_at_call 44; refine (szS _ _ (by omega) (by omega)).mono ?_; rintro e w' ⟨rfl, rfl⟩))
          go_ret2
          exact ⟨by simp [timesV, hf], rfl⟩
        · have hf : fitB a b = true := by rw [fit_comm]; exact fit_yes hb ha h0 hc
          have hm := (fit_ok hf).2.2
          go_enter Try.func36, Try.ntmps36
          go_wp2_with (first | (go_at_call 25; refine (okS _ _).mono ?_; rintro e w' ⟨rfl, rfl⟩) | (go_at_call 44; refine (szS _ _ (by omega) (by omega)).mono ?_; rintro e w' ⟨rfl, rfl⟩))
          go_ret2
          exact ⟨by simp [timesV, hf], rfl⟩
end Go.Proofs.Ytdpefmjlmpjjbaa.Coin
