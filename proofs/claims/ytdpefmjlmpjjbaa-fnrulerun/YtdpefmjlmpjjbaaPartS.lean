/-
  CoinPart as the document's model has it: it answers what the program's answers.
-/
import Derived.Test.YtdpefmjlmpjjbaaPart
namespace Go.Proofs.Ytdpefmjlmpjjbaa.Coin
set_option linter.unusedVariables false
open Go.RowKit

theorem szS_pos (r : Int) (w : World) (h : 0 ≤ r) (h' : r ≤ 9223372036854775807) : Calls Try.prog 44 #[.int .i64 r] w fun e w' => e = .returned (.int .i64 r) ∧ w' = w := by
  have t := szS r w (by omega) (by omega)
  rw [sz_pos h] at t; exact t
theorem szS_neg (r : Int) (w : World) (h : 0 ≤ r) (h' : r ≤ 9223372036854775807) : Calls Try.prog 44 #[.int .i64 (-r)] w fun e w' => e = .returned (.int .i64 r) ∧ w' = w := by
  have t := szS (-r) w (by omega) (by omega)
  have e : sz (-r) = r := by unfold sz; split <;> omega
  rw [e] at t; exact t

/-- l1Round where nothing is below 0 -/
theorem roundS_pos (q r d : Int) (w : World) (h0 : 0 ≤ q) (h0' : q ≤ 4000000000000000) (h1 : 0 ≤ r) (h2 : r < d) (h3 : d ≤ 16000000) : Calls Try.prog 37 #[.int .i64 q, .int .i64 r, .int .i64 d] w fun e w' => e = .returned (.int .i64 (rndE q r d)) ∧ w' = w := by
  by_cases c1 : d < 2 * r
  · go_enter Try.func37, Try.ntmps37
    go_wp2_with (first | (go_at_call 44; refine (szS_pos _ _ (by omega) (by omega)).mono ?_; rintro e w' ⟨rfl, rfl⟩))
    go_ret
    exact ⟨ret_int (rndE_up c1).symm, rfl⟩
  · by_cases c2 : 2 * r = d
    · have c2' : (2 * r == d) = true := by simpa using c2
      by_cases c3 : q % 2 = 0
      · have c3' : (q % 2 != 0) = false := by simpa using c3
        have C2 := hide c2; clear c2
        have C3 := hide c3; clear c3
        go_enter Try.func37, Try.ntmps37
        go_wp2_with (first | (go_at_call 44; refine (szS_pos _ _ (by omega) (by omega)).mono ?_; rintro e w' ⟨rfl, rfl⟩))
        go_ret
        exact ⟨ret_int (rndE_even (unhide C2) (unhide C3)).symm, rfl⟩
      · have c3' : (q % 2 != 0) = true := by simpa using c3
        have C2 := hide c2; clear c2
        go_enter Try.func37, Try.ntmps37
        go_wp2_with (first | (go_at_call 44; refine (szS_pos _ _ (by omega) (by omega)).mono ?_; rintro e w' ⟨rfl, rfl⟩))
        go_ret
        exact ⟨ret_int (rndE_tie (unhide C2) c3).symm, rfl⟩
    · have c2' : (2 * r == d) = false := by simpa using c2
      go_enter Try.func37, Try.ntmps37
      go_wp2_with (first | (go_at_call 44; refine (szS_pos _ _ (by omega) (by omega)).mono ?_; rintro e w' ⟨rfl, rfl⟩))
      go_ret
      exact ⟨ret_int (rndE_low (by omega)).symm, rfl⟩

theorem tmod_neg (q : Int) (h : 0 ≤ q) : (-q).tmod 2 = -(q % 2) := by
  rw [Int.neg_tmod, Int.tmod_eq_emod_of_nonneg h]

/-- l1Round where nothing is above 0 -/
theorem roundS_neg (q r d : Int) (w : World) (h0 : 0 ≤ q) (h0' : q ≤ 4000000000000000) (h1 : 0 ≤ r) (h2 : r < d) (h3 : d ≤ 16000000) : Calls Try.prog 37 #[.int .i64 (-q), .int .i64 (-r), .int .i64 d] w fun e w' => e = .returned (.int .i64 (-(rndE q r d))) ∧ w' = w := by
  have tm := tmod_neg q h0
  by_cases c1 : d < 2 * r
  · go_enter Try.func37, Try.ntmps37
    go_wp2_with (first | (go_at_call 44; refine (szS_neg _ _ (by omega) (by omega)).mono ?_; rintro e w' ⟨rfl, rfl⟩))
    go_ret
    exact ⟨ret_int (by rw [rndE_up c1]; omega), rfl⟩
  · by_cases c2 : 2 * r = d
    · have c2' : (2 * r == d) = true := by simpa using c2
      by_cases c3 : q % 2 = 0
      · have c3' : (-(q % 2) != 0) = false := by simp; omega
        have C2 := hide c2; clear c2
        have C3 := hide c3; clear c3
        go_enter Try.func37, Try.ntmps37
        go_wp2_with (first | (go_at_call 44; refine (szS_neg _ _ (by omega) (by omega)).mono ?_; rintro e w' ⟨rfl, rfl⟩))
        go_ret
        exact ⟨ret_int (by rw [rndE_even (unhide C2) (unhide C3)]), rfl⟩
      · have c3' : (-(q % 2) != 0) = true := by simp; omega
        have hr : 0 < r := by omega
        have C2 := hide c2; clear c2
        go_enter Try.func37, Try.ntmps37
        go_wp2_with (first | (go_at_call 44; refine (szS_neg _ _ (by omega) (by omega)).mono ?_; rintro e w' ⟨rfl, rfl⟩))
        go_ret
        exact ⟨ret_int (by rw [rndE_tie (unhide C2) c3]; omega), rfl⟩
    · have c2' : (2 * r == d) = false := by simpa using c2
      go_enter Try.func37, Try.ntmps37
      go_wp2_with (first | (go_at_call 44; refine (szS_neg _ _ (by omega) (by omega)).mono ?_; rintro e w' ⟨rfl, rfl⟩))
      go_ret
      exact ⟨ret_int (by rw [rndE_low (by omega)]), rfl⟩
theorem timesS_yes (a b : Int) (w : World) (h : fitB a b = true) : Calls Try.prog 36 #[.int .i64 a, .int .i64 b] w fun e w' => e = .returned (.tuple #[.int .i64 (a * b), .bool true]) ∧ w' = w := by
  have := timesS a b w; rw [timesV_yes h, h] at this; exact this
theorem timesS_no (a b : Int) (w : World) (h : fitB a b = false) : Calls Try.prog 36 #[.int .i64 a, .int .i64 b] w fun e w' => e = .returned (.tuple #[.int .i64 0, .bool false]) ∧ w' = w := by
  have := timesS a b w; rw [timesV_no h, h] at this; exact this
theorem fit_neg (a b : Int) : fitB (-a) b = fitB a b := by
  have h1 : okB (-a) = okB a := by unfold okB; congr 1; apply propext; omega
  have h2 : sz (-a) = sz a := by unfold sz; split <;> split <;> omega
  unfold fitB; rw [h1, h2]
theorem timesS_yesN (a b : Int) (w : World) (h : fitB a b = true) : Calls Try.prog 36 #[.int .i64 (-a), .int .i64 b] w fun e w' => e = .returned (.tuple #[.int .i64 (-(a * b)), .bool true]) ∧ w' = w := by
  have := timesS_yes (-a) b w (by rw [fit_neg]; exact h); rw [Int.neg_mul] at this; exact this
theorem timesS_noN (a b : Int) (w : World) (h : fitB a b = false) : Calls Try.prog 36 #[.int .i64 (-a), .int .i64 b] w fun e w' => e = .returned (.tuple #[.int .i64 0, .bool false]) ∧ w' = w :=
  timesS_no (-a) b w (by rw [fit_neg]; exact h)

theorem partS_bad (a n d : Int) (w : World) (h : okB a = false ∨ n < 0 ∨ 1000000 < n ∨ d < 1 ∨ 1000000 < d) : Calls Try.prog 26 #[.int .i64 a, .int .i64 n, .int .i64 d] w fun e w' => e = .returned (.tuple #[.int .i64 0, .bool false]) ∧ w' = w := by
  cases ha : okB a
  · go_enter Try.func26, Try.ntmps26
    go_wp2_with (first | (go_at_call 25; refine (okS _ _).mono ?_; rintro e w' ⟨rfl, rfl⟩))
    go_ret2
    exact ⟨rfl, rfl⟩
  · by_cases c1 : n < 0
    · go_enter Try.func26, Try.ntmps26
      go_wp2_with (first | (go_at_call 25; refine (okS _ _).mono ?_; rintro e w' ⟨rfl, rfl⟩))
      go_ret2
      exact ⟨rfl, rfl⟩
    · by_cases c2 : 1000000 < n
      · go_enter Try.func26, Try.ntmps26
        go_wp2_with (first | (go_at_call 25; refine (okS _ _).mono ?_; rintro e w' ⟨rfl, rfl⟩))
        go_ret2
        exact ⟨rfl, rfl⟩
      · by_cases c3 : d < 1
        · go_enter Try.func26, Try.ntmps26
          go_wp2_with (first | (go_at_call 25; refine (okS _ _).mono ?_; rintro e w' ⟨rfl, rfl⟩))
          go_ret2
          exact ⟨rfl, rfl⟩
        · have c4 : 1000000 < d := by rw [ha] at h; simp at h; omega
          clear h
          go_enter Try.func26, Try.ntmps26
          go_wp2_with (first | (go_at_call 25; refine (okS _ _).mono ?_; rintro e w' ⟨rfl, rfl⟩))
          go_ret2
          exact ⟨rfl, rfl⟩

/-- the document's CoinPart at an amount x not below 0 -/
theorem partS_pos (x n d : Int) (w : World) (h1 : 0 ≤ x) (h2 : x ≤ 1000000000000000) (hn : 0 ≤ n) (hn' : n ≤ 1000000) (hd : 1 ≤ d) (hd' : d ≤ 1000000) (hf : fitB (x / d) n = true) : Calls Try.prog 26 #[.int .i64 x, .int .i64 n, .int .i64 d] w fun e w' => e = .returned (.tuple #[.int .i64 (if okB (rndE (x / d * n + x % d * n / d) (x % d * n % d) d) = true then rndE (x / d * n + x % d * n / d) (x % d * n % d) d else 0), .bool (okB (rndE (x / d * n + x % d * n / d) (x % d * n % d) d))]) ∧ ∃ k, w' = w.drewN k := by
  obtain ⟨f1, f2, f3, f4⟩ := fit_ok hf
  obtain ⟨p1, p2⟩ := prodBd (x := x) hn hn' hd (by omega)
  obtain ⟨q1, q2, q3, q4⟩ := divBd (y := x % d * n) p1 hd
  have x0 := divBd h1 hd
  have f0 : 0 ≤ x / d * n := Int.mul_nonneg x0.1 hn
  have ha := okB_true (n := x) (by omega)
  clear f1 f2 f3
  cases hp : okB (rndE (x / d * n + x % d * n / d) (x % d * n % d) d)
  · go_enter Try.func26, Try.ntmps26
    go_wp2_with (first | (go_at_call 25; refine (okS _ _).mono ?_; rintro e w' ⟨rfl, rfl⟩) | (go_at_call 36; refine (timesS_yes _ _ _ hf).mono ?_; rintro e w' ⟨rfl, rfl⟩))
    go_quiet ((go_at_call 37; exact Calls.quiet_of_same (roundS_pos _ _ _ _ (by omega) (by omega) (by omega) (by omega) (by omega))))
    go_wp2_with (first | (go_at_call 25; refine (okS _ _).mono ?_; rintro e w' ⟨rfl, rfl⟩))
    go_ret2
    exact ⟨rfl, _, rfl⟩
  · go_enter Try.func26, Try.ntmps26
    go_wp2_with (first | (go_at_call 25; refine (okS _ _).mono ?_; rintro e w' ⟨rfl, rfl⟩) | (go_at_call 36; refine (timesS_yes _ _ _ hf).mono ?_; rintro e w' ⟨rfl, rfl⟩))
    go_quiet ((go_at_call 37; exact Calls.quiet_of_same (roundS_pos _ _ _ _ (by omega) (by omega) (by omega) (by omega) (by omega))))
    go_wp2_with (first | (go_at_call 25; refine (okS _ _).mono ?_; rintro e w' ⟨rfl, rfl⟩))
    go_ret2
    exact ⟨rfl, _, rfl⟩

theorem roundS_neg' (q' r' q r d : Int) (w : World) (hq : q' = -q) (hr : r' = -r) (h0 : 0 ≤ q) (h0' : q ≤ 4000000000000000) (h1 : 0 ≤ r) (h2 : r < d) (h3 : d ≤ 16000000) : Calls Try.prog 37 #[.int .i64 q', .int .i64 r', .int .i64 d] w fun e w' => e = .returned (.int .i64 (-(rndE q r d))) ∧ w' = w := by
  subst hq hr; exact roundS_neg q r d w h0 h0' h1 h2 h3

theorem tdiv_neg (x d : Int) (h : 0 ≤ x) : (-x).tdiv d = -(x / d) := by rw [Int.neg_tdiv, Int.tdiv_eq_ediv_of_nonneg h]
theorem tmod_neg' (x d : Int) (h : 0 ≤ x) : (-x).tmod d = -(x % d) := by rw [Int.neg_tmod, Int.tmod_eq_emod_of_nonneg h]

/-- the document's CoinPart at an amount below 0 -/
theorem partS_neg (x n d : Int) (w : World) (h1 : 1 ≤ x) (h2 : x ≤ 1000000000000000) (hn : 0 ≤ n) (hn' : n ≤ 1000000) (hd : 1 ≤ d) (hd' : d ≤ 1000000) (hf : fitB (x / d) n = true) : Calls Try.prog 26 #[.int .i64 (-x), .int .i64 n, .int .i64 d] w fun e w' => e = .returned (.tuple #[.int .i64 (if okB (rndE (x / d * n + x % d * n / d) (x % d * n % d) d) = true then -(rndE (x / d * n + x % d * n / d) (x % d * n % d) d) else 0), .bool (okB (rndE (x / d * n + x % d * n / d) (x % d * n % d) d))]) ∧ ∃ k, w' = w.drewN k := by
  obtain ⟨f1, f2, f3, f4⟩ := fit_ok hf
  obtain ⟨p1, p2⟩ := prodBd (x := x) hn hn' hd (by omega)
  obtain ⟨q1, q2, q3, q4⟩ := divBd (y := x % d * n) p1 hd
  have x0 := divBd (y := x) (by omega) hd
  have f0 : 0 ≤ x / d * n := Int.mul_nonneg x0.1 hn
  have ha := okB_true (n := -x) (by omega)
  have t1 := tdiv_neg x d (by omega)
  have t2 := tmod_neg' x d (by omega)
  have t3 : -(x % d) * n = -(x % d * n) := Int.neg_mul _ _
  have t4 := tdiv_neg (x % d * n) d p1
  have t5 := tmod_neg' (x % d * n) d p1
  have t6 := okB_neg (rndE (x / d * n + x % d * n / d) (x % d * n % d) d)
  clear f1 f2 f3
  cases hp : okB (rndE (x / d * n + x % d * n / d) (x % d * n % d) d)
  · rw [hp] at t6
    go_enter Try.func26, Try.ntmps26
    go_wp2_with (first | (go_at_call 25; refine (okS _ _).mono ?_; rintro e w' ⟨rfl, rfl⟩) | (go_at_call 36; refine (timesS_yesN _ _ _ hf).mono ?_; rintro e w' ⟨rfl, rfl⟩))
    go_quiet ((go_at_call 37; exact Calls.quiet_of_same (roundS_neg' _ _ (x / d * n + x % d * n / d) (x % d * n % d) _ _ (by omega) (by omega) (by omega) (by omega) (by omega) (by omega) (by omega))))
    go_wp2_with (first | (go_at_call 25; refine (okS _ _).mono ?_; rintro e w' ⟨rfl, rfl⟩))
    go_ret2
    exact ⟨rfl, _, rfl⟩
  · rw [hp] at t6
    go_enter Try.func26, Try.ntmps26
    go_wp2_with (first | (go_at_call 25; refine (okS _ _).mono ?_; rintro e w' ⟨rfl, rfl⟩) | (go_at_call 36; refine (timesS_yesN _ _ _ hf).mono ?_; rintro e w' ⟨rfl, rfl⟩))
    go_quiet ((go_at_call 37; exact Calls.quiet_of_same (roundS_neg' _ _ (x / d * n + x % d * n / d) (x % d * n % d) _ _ (by omega) (by omega) (by omega) (by omega) (by omega) (by omega) (by omega))))
    go_wp2_with (first | (go_at_call 25; refine (okS _ _).mono ?_; rintro e w' ⟨rfl, rfl⟩))
    go_ret2
    exact ⟨rfl, _, rfl⟩

theorem partS_noP (x n d : Int) (w : World) (h1 : 0 ≤ x) (h2 : x ≤ 1000000000000000) (hn : 0 ≤ n) (hn' : n ≤ 1000000) (hd : 1 ≤ d) (hd' : d ≤ 1000000) (hf : fitB (x / d) n = false) : Calls Try.prog 26 #[.int .i64 x, .int .i64 n, .int .i64 d] w fun e w' => e = .returned (.tuple #[.int .i64 0, .bool false]) ∧ w' = w := by
  have ha := okB_true (n := x) (by omega)
  go_enter Try.func26, Try.ntmps26
  go_wp2_with (first | (go_at_call 25; refine (okS _ _).mono ?_; rintro e w' ⟨rfl, rfl⟩) | (go_at_call 36; refine (timesS_no _ _ _ hf).mono ?_; rintro e w' ⟨rfl, rfl⟩))
  go_ret2
  exact ⟨rfl, rfl⟩
theorem partS_noN (x n d : Int) (w : World) (h1 : 1 ≤ x) (h2 : x ≤ 1000000000000000) (hn : 0 ≤ n) (hn' : n ≤ 1000000) (hd : 1 ≤ d) (hd' : d ≤ 1000000) (hf : fitB (x / d) n = false) : Calls Try.prog 26 #[.int .i64 (-x), .int .i64 n, .int .i64 d] w fun e w' => e = .returned (.tuple #[.int .i64 0, .bool false]) ∧ w' = w := by
  have ha := okB_true (n := -x) (by omega)
  have x0 := divBd (y := x) (by omega) hd
  have t1 := tdiv_neg x d (by omega)
  go_enter Try.func26, Try.ntmps26
  go_wp2_with (first | (go_at_call 25; refine (okS _ _).mono ?_; rintro e w' ⟨rfl, rfl⟩) | (go_at_call 36; refine (timesS_noN _ _ _ hf).mono ?_; rintro e w' ⟨rfl, rfl⟩))
  go_ret2
  exact ⟨rfl, rfl⟩

theorem partS (a n d : Int) (w : World) : Calls Try.prog 26 #[.int .i64 a, .int .i64 n, .int .i64 d] w fun e w' => e = .returned (.tuple #[.int .i64 (partV a n d), .bool (partB a n d)]) ∧ ∃ k, w' = w.drewN k := by
  by_cases hb : okB a = false ∨ n < 0 ∨ 1000000 < n ∨ d < 1 ∨ 1000000 < d
  · have e : partB a n d = false := by
      unfold partB
      rcases hb with h | h
      · simp [h]
      · have : decide (0 ≤ n ∧ n ≤ 1000000 ∧ 1 ≤ d ∧ d ≤ 1000000) = false := by simp; omega
        rw [this]; simp
    refine (partS_bad a n d w hb).mono ?_
    rintro e' w' ⟨rfl, rfl⟩
    exact ⟨by simp [partV, e], 0, rfl⟩
  · have ha : okB a = true := by cases h : okB a <;> simp_all
    have hn : 0 ≤ n := by omega
    have hn' : n ≤ 1000000 := by omega
    have hd : 1 ≤ d := by omega
    have hd' : d ≤ 1000000 := by omega
    clear hb
    have h1 := okB_iff.1 ha
    have hdec : decide (0 ≤ n ∧ n ≤ 1000000 ∧ 1 ≤ d ∧ d ≤ 1000000) = true := by simp; omega
    by_cases hs : a < 0
    · have hz : sz a = -a := sz_neg hs
      obtain ⟨x, rfl⟩ : ∃ x, a = -x := ⟨-a, by omega⟩
      rw [Int.neg_neg] at hz
      cases hf : fitB (x / d) n
      · refine (partS_noN x n d w (by omega) (by omega) hn hn' hd hd' hf).mono ?_
        rintro e' w' ⟨rfl, rfl⟩
        have e : partB (-x) n d = false := by simp [partB, hz, hf]
        exact ⟨by simp [partV, e], 0, rfl⟩
      · refine (partS_neg x n d w (by omega) (by omega) hn hn' hd hd' hf).mono ?_
        rintro e' w' ⟨rfl, k, rfl⟩
        have e : partB (-x) n d = okB (rndE (x / d * n + x % d * n / d) (x % d * n % d) d) := by simp only [partB, hz, hf, ha, hdec, Bool.true_and]
        refine ⟨?_, k, rfl⟩
        unfold partV
        rw [e, hz, if_pos hs]
    · have hz : sz a = a := sz_pos (by omega)
      cases hf : fitB (a / d) n
      · refine (partS_noP a n d w (by omega) (by omega) hn hn' hd hd' hf).mono ?_
        rintro e' w' ⟨rfl, rfl⟩
        have e : partB a n d = false := by simp [partB, hz, hf]
        exact ⟨by simp [partV, e], 0, rfl⟩
      · refine (partS_pos a n d w (by omega) (by omega) hn hn' hd hd' hf).mono ?_
        rintro e' w' ⟨rfl, k, rfl⟩
        have e : partB a n d = okB (rndE (a / d * n + a % d * n / d) (a % d * n % d) d) := by simp only [partB, hz, hf, ha, hdec, Bool.true_and]
        refine ⟨?_, k, rfl⟩
        unfold partV
        rw [e, hz, if_neg hs]
end Go.Proofs.Ytdpefmjlmpjjbaa.Coin
