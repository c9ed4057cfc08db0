/-
  What the functions of chapter 1 on single amounts answer (the program's and the document's own), function by function.
-/
import Derived.Test.YthhkjbhkginecaaProg
import Derived.Test.YthhkjbhkginecaaCoinMath
import Derived.WalkKit
import Derived.WalkLawsBesides
import Derived.Below
namespace Go.Proofs.Ythhkjbhkginecaa.Coin
set_option linter.unusedVariables false
open Go.RowKit

theorem hide {p : Prop} (h : p) : Hid p := h
theorem unhide {p : Prop} (h : Hid p) : p := h.out
theorem ret_int {k : IntKind} {a b : Int} (h : a = b) : Ending.returned (.int k a) = .returned (.int k b) := by rw [h]
theorem ret_bool {a b : Bool} (h : a = b) : Ending.returned (.bool a) = .returned (.bool b) := by rw [h]
theorem ret_ib {k : IntKind} {a b : Int} {c d : Bool} (h : a = b) (h' : c = d) : Ending.returned (.tuple #[.int k a, .bool c]) = .returned (.tuple #[.int k b, .bool d]) := by rw [h, h']

theorem okM (a : Int) (w : World) : Calls Try.prog 49 #[.int .i64 a] w fun e w' => e = .returned (.bool (okB a)) ∧ w' = w := by
  by_cases h1 : -1000000000000000 ≤ a
  · by_cases h2 : a ≤ 1000000000000000
    · go_enter Try.func49, Try.ntmps49
      go_wp2
      go_ret
      exact ⟨ret_bool (okB_true ⟨h1, h2⟩).symm, rfl⟩
    · go_enter Try.func49, Try.ntmps49
      go_wp2
      go_ret
      exact ⟨ret_bool (okB_false (by omega)).symm, rfl⟩
  · go_enter Try.func49, Try.ntmps49
    go_wp2
    go_ret
    exact ⟨ret_bool (okB_false (by omega)).symm, rfl⟩

theorem szM (a : Int) (w : World) (h : -9223372036854775807 ≤ a) (h' : a ≤ 9223372036854775807) : Calls Try.prog 62 #[.int .i64 a] w fun e w' => e = .returned (.int .i64 (sz a)) ∧ w' = w := by
  by_cases h1 : a < 0
  · go_enter Try.func62, Try.ntmps62
    go_wp2
    go_ret
    exact ⟨ret_int (sz_neg h1).symm, rfl⟩
  · go_enter Try.func62, Try.ntmps62
    go_wp2
    go_ret
    exact ⟨ret_int (sz_pos (by omega)).symm, rfl⟩

theorem plusM (a b : Int) (w : World) : Calls Try.prog 109 #[.int .i64 a, .int .i64 b] w fun e w' => e = .returned (.tuple #[.int .i64 (addV a b), .bool (addB a b)]) ∧ w' = w := by
  cases ha : okB a
  · go_enter Try.func109, Try.ntmps109
    go_wp2_with (go_at_call 49; refine (okM _ _).mono ?_; rintro e w' ⟨rfl, rfl⟩)
    go_ret2
    exact ⟨by simp [addV, addB, ha], rfl⟩
  · cases hb : okB b
    · go_enter Try.func109, Try.ntmps109
      go_wp2_with (go_at_call 49; refine (okM _ _).mono ?_; rintro e w' ⟨rfl, rfl⟩)
      go_ret2
      exact ⟨by simp [addV, addB, hb], rfl⟩
    · have h1 := okB_iff.1 ha
      have h2 := okB_iff.1 hb
      cases hc : okB (a + b)
      · go_enter Try.func109, Try.ntmps109
        go_wp2_with (go_at_call 49; refine (okM _ _).mono ?_; rintro e w' ⟨rfl, rfl⟩)
        go_ret2
        exact ⟨by simp [addV, addB, hc], rfl⟩
      · go_enter Try.func109, Try.ntmps109
        go_wp2_with (go_at_call 49; refine (okM _ _).mono ?_; rintro e w' ⟨rfl, rfl⟩)
        go_ret2
        exact ⟨by simp [addV, addB, ha, hb, hc], rfl⟩

theorem addI (a b : Int) (w : World) : Calls Try.prog 94 #[.int .i64 a, .int .i64 b] w fun e w' => e = .returned (.tuple #[.int .i64 (addV a b), .bool (addB a b)]) ∧ w' = w := by
  go_enter Try.func94, Try.ntmps94
  go_wp2_with (go_at_call 109; refine (plusM _ _ _).mono ?_; rintro e w' ⟨rfl, rfl⟩)
  go_ret2
  exact ⟨rfl, rfl⟩

theorem timesM (a b : Int) (w : World) : Calls Try.prog 48 #[.int .i64 a, .int .i64 b] w fun e w' => e = .returned (.tuple #[.int .i64 (timesV a b), .bool (fitB a b)]) ∧ w' = w := by
  cases ha : okB a
  · go_enter Try.func48, Try.ntmps48
    go_wp2_with (go_at_call 49; refine (okM _ _).mono ?_; rintro e w' ⟨rfl, rfl⟩)
    go_ret2
    exact ⟨by simp [timesV, fitB, ha], rfl⟩
  · cases hb : okB b
    · go_enter Try.func48, Try.ntmps48
      go_wp2_with (go_at_call 49; refine (okM _ _).mono ?_; rintro e w' ⟨rfl, rfl⟩)
      go_ret2
      exact ⟨by simp [timesV, fitB, hb], rfl⟩
    · have h1 := okB_iff.1 ha
      have h2 := okB_iff.1 hb
      have s1 : -9223372036854775807 ≤ sz a ∧ sz a ≤ 1000000000000000 := by unfold sz; split <;> omega
      by_cases h0 : a = 0
      · subst h0
        go_enter Try.func48, Try.ntmps48
        go_wp2_with (go_at_call 49; refine (okM _ _).mono ?_; rintro e w' ⟨rfl, rfl⟩)
        go_ret2
        exact ⟨by simp [timesV, fit_zero hb], rfl⟩
      · have h0' : (a != 0) = true := by simpa using h0
        have s0 : 1 ≤ sz a := by unfold sz; split <;> omega
        by_cases hc : 1000000000000000 / sz a < sz b
        · go_enter Try.func48, Try.ntmps48
          go_wp2_with (first | (go_at_call 49; refine (okM _ _).mono ?_; rintro e w' ⟨rfl, rfl⟩) | (go_at_call 62; refine (szM _ _ (by omega) (by omega)).mono ?_; rintro e w' ⟨rfl, rfl⟩))
          go_ret2
          exact ⟨by simp [timesV, fit_no h0 hc], rfl⟩
        · have hf := fit_yes ha hb h0 hc
          have hm := (fit_ok hf).2.2
          go_enter Try.func48, Try.ntmps48
          go_wp2_with (first | (go_at_call 49; refine (okM _ _).mono ?_; rintro e w' ⟨rfl, rfl⟩) | (go_at_call 62; refine (szM _ _ (by omega) (by omega)).mono ?_; rintro e w' ⟨rfl, rfl⟩))
          go_ret2
          exact ⟨by simp [timesV, hf], rfl⟩
theorem timesI (a b : Int) (w : World) : Calls Try.prog 96 #[.int .i64 a, .int .i64 b] w fun e w' => e = .returned (.tuple #[.int .i64 (timesV a b), .bool (fitB a b)]) ∧ w' = w := by
  go_enter Try.func96, Try.ntmps96
  go_wp2_with (go_at_call 48; refine (timesM _ _ _).mono ?_; rintro e w' ⟨rfl, rfl⟩)
  go_ret2
  exact ⟨rfl, rfl⟩

end Go.Proofs.Ythhkjbhkginecaa.Coin
