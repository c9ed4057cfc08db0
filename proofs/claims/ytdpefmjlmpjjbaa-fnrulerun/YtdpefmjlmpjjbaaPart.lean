/-
  CoinPart, the program's and the document's: both answer one and the same.
-/
import Derived.Test.YtdpefmjlmpjjbaaCoin
import Derived.Deep.QuietTactic
import Derived.BigQuiet
namespace Go.Proofs.Ytdpefmjlmpjjbaa.Coin
set_option linter.unusedVariables false
open Go.RowKit

theorem rndEM (q r d : Int) (w : World) (h0 : 0 ≤ q) (h0' : q ≤ 4000000000000000) (h1 : 0 ≤ r) (h2 : r < d) (h3 : d ≤ 16000000) : Calls Try.prog 82 #[.int .i64 q, .int .i64 r, .int .i64 d] w fun e w' => e = .returned (.int .i64 (rndE q r d)) ∧ w' = w := by
  by_cases c1 : d < 2 * r
  · go_enter Try.func82, Try.ntmps82
    go_wp2
    go_ret
    exact ⟨ret_int (rndE_up c1).symm, rfl⟩
  · by_cases c2 : 2 * r = d
    · have c2' : (2 * r == d) = true := by simpa using c2
      by_cases c3 : q % 2 = 0
      · have c3' : (q % 2 != 0) = false := by simpa using c3
        have C2 := hide c2; clear c2
        have C3 := hide c3; clear c3
        go_enter Try.func82, Try.ntmps82
        go_wp2
        go_ret
        exact ⟨ret_int (rndE_even (unhide C2) (unhide C3)).symm, rfl⟩
      · have c3' : (q % 2 != 0) = true := by simpa using c3
        have C2 := hide c2; clear c2
        go_enter Try.func82, Try.ntmps82
        go_wp2
        go_ret
        exact ⟨ret_int (rndE_tie (unhide C2) c3).symm, rfl⟩
    · have c2' : (2 * r == d) = false := by simpa using c2
      go_enter Try.func82, Try.ntmps82
      go_wp2
      go_ret
      exact ⟨ret_int (rndE_low (by omega)).symm, rfl⟩

theorem timesM_yes (a b : Int) (w : World) (h : fitB a b = true) : Calls Try.prog 41 #[.int .i64 a, .int .i64 b] w fun e w' => e = .returned (.tuple #[.int .i64 (a * b), .bool true]) ∧ w' = w := by
  have := timesM a b w; rw [timesV_yes h, h] at this; exact this
theorem timesM_no (a b : Int) (w : World) (h : fitB a b = false) : Calls Try.prog 41 #[.int .i64 a, .int .i64 b] w fun e w' => e = .returned (.tuple #[.int .i64 0, .bool false]) ∧ w' = w := by
  have := timesM a b w; rw [timesV_no h, h] at this; exact this

/-- what divide answers with roundEven: the part, the rest, whether it is told -/
theorem divE_no (x n d : Int) (w : World) (h1 : 0 ≤ x) (h2 : x ≤ 1000000000000000) (hn : 0 ≤ n) (hn' : n ≤ 1000000) (hd : 1 ≤ d) (hd' : d ≤ 16000000) (fn : Value) (hf : fitB (x / d) n = false) : Calls Try.prog 81 #[.int .i64 x, .int .i64 n, .int .i64 d, fn] w fun e w' => e = .returned (.tuple #[.int .i64 0, .int .i64 0, .bool false]) ∧ w' = w := by
  go_enter Try.func81, Try.ntmps81
  go_wp2_with (first | (go_at_call 41; refine (timesM_no _ _ _ hf).mono ?_; rintro e w' ⟨rfl, rfl⟩))
  go_ret3
  exact ⟨rfl, rfl⟩

theorem divE_yes (x n d : Int) (w : World) (h1 : 0 ≤ x) (h2 : x ≤ 1000000000000000) (hn : 0 ≤ n) (hn' : n ≤ 1000000) (hd : 1 ≤ d) (hd' : d ≤ 16000000) (hf : fitB (x / d) n = true) (hp : okB (rndE (x / d * n + x % d * n / d) (x % d * n % d) d) = true) : Calls Try.prog 81 #[.int .i64 x, .int .i64 n, .int .i64 d, .func (.func 82) #[] #[]] w fun e w' => e = .returned (.tuple #[.int .i64 (rndE (x / d * n + x % d * n / d) (x % d * n % d) d), .int .i64 (x % d * n % d), .bool true]) ∧ ∃ k, w' = w.drewN k := by
  obtain ⟨f1, f2, f3, f4⟩ := fit_ok hf
  obtain ⟨p1, p2⟩ := prodBd (x := x) hn hn' hd hd'
  obtain ⟨q1, q2, q3, q4⟩ := divBd (y := x % d * n) p1 hd
  have x0 := divBd h1 hd
  have f0 : 0 ≤ x / d * n := Int.mul_nonneg x0.1 hn
  clear f1 f2 f3
  go_enter Try.func81, Try.ntmps81
  go_wp2_with (first | (go_at_call 41; refine (timesM_yes _ _ _ hf).mono ?_; rintro e w' ⟨rfl, rfl⟩))
  go_quiet ((go_at_call 82; exact Calls.quiet_of_same (rndEM _ _ _ _ (by omega) (by omega) (by omega) (by omega) (by omega))))
  go_wp2_with (first | (go_at_call 16; refine (okM _ _).mono ?_; rintro e w' ⟨rfl, rfl⟩))
  go_quiet (fail)
  go_wp2
  go_ret3
  exact ⟨rfl, _, World.drewN_drewN _ _ _⟩

theorem divE_big (x n d : Int) (w : World) (h1 : 0 ≤ x) (h2 : x ≤ 1000000000000000) (hn : 0 ≤ n) (hn' : n ≤ 1000000) (hd : 1 ≤ d) (hd' : d ≤ 16000000) (hf : fitB (x / d) n = true) (hp : okB (rndE (x / d * n + x % d * n / d) (x % d * n % d) d) = false) : Calls Try.prog 81 #[.int .i64 x, .int .i64 n, .int .i64 d, .func (.func 82) #[] #[]] w fun e w' => e = .returned (.tuple #[.int .i64 0, .int .i64 0, .bool false]) ∧ ∃ k, w' = w.drewN k := by
  obtain ⟨f1, f2, f3, f4⟩ := fit_ok hf
  obtain ⟨p1, p2⟩ := prodBd (x := x) hn hn' hd hd'
  obtain ⟨q1, q2, q3, q4⟩ := divBd (y := x % d * n) p1 hd
  have x0 := divBd h1 hd
  have f0 : 0 ≤ x / d * n := Int.mul_nonneg x0.1 hn
  clear f1 f2 f3
  go_enter Try.func81, Try.ntmps81
  go_wp2_with (first | (go_at_call 41; refine (timesM_yes _ _ _ hf).mono ?_; rintro e w' ⟨rfl, rfl⟩))
  go_quiet ((go_at_call 82; exact Calls.quiet_of_same (rndEM _ _ _ _ (by omega) (by omega) (by omega) (by omega) (by omega))))
  go_wp2_with (first | (go_at_call 16; refine (okM _ _).mono ?_; rintro e w' ⟨rfl, rfl⟩))
  go_ret3
  exact ⟨rfl, _, rfl⟩

theorem partI_bad (a n d : Int) (w : World) (h : okB a = false ∨ n < 0 ∨ 1000000 < n ∨ d < 1 ∨ 1000000 < d) : Calls Try.prog 80 #[.int .i64 a, .int .i64 n, .int .i64 d] w fun e w' => e = .returned (.tuple #[.int .i64 0, .bool false]) ∧ w' = w := by
  cases ha : okB a
  · go_enter Try.func80, Try.ntmps80
    go_wp2_with (first | (go_at_call 7; refine (okI _ _).mono ?_; rintro e w' ⟨rfl, rfl⟩))
    go_ret2
    exact ⟨rfl, rfl⟩
  · by_cases c1 : n < 0
    · go_enter Try.func80, Try.ntmps80
      go_wp2_with (first | (go_at_call 7; refine (okI _ _).mono ?_; rintro e w' ⟨rfl, rfl⟩))
      go_ret2
      exact ⟨rfl, rfl⟩
    · by_cases c2 : 1000000 < n
      · go_enter Try.func80, Try.ntmps80
        go_wp2_with (first | (go_at_call 7; refine (okI _ _).mono ?_; rintro e w' ⟨rfl, rfl⟩))
        go_ret2
        exact ⟨rfl, rfl⟩
      · by_cases c3 : d < 1
        · go_enter Try.func80, Try.ntmps80
          go_wp2_with (first | (go_at_call 7; refine (okI _ _).mono ?_; rintro e w' ⟨rfl, rfl⟩))
          go_ret2
          exact ⟨rfl, rfl⟩
        · have c4 : 1000000 < d := by rw [ha] at h; simp at h; omega
          clear h
          go_enter Try.func80, Try.ntmps80
          go_wp2_with (first | (go_at_call 7; refine (okI _ _).mono ?_; rintro e w' ⟨rfl, rfl⟩))
          go_ret2
          exact ⟨rfl, rfl⟩

theorem drewN0 (w : World) : w = w.drewN 0 := rfl

theorem partI (a n d : Int) (w : World) : Calls Try.prog 80 #[.int .i64 a, .int .i64 n, .int .i64 d] w fun e w' => e = .returned (.tuple #[.int .i64 (partV a n d), .bool (partB a n d)]) ∧ ∃ k, w' = w.drewN k := by
  by_cases hb : okB a = false ∨ n < 0 ∨ 1000000 < n ∨ d < 1 ∨ 1000000 < d
  · have e : partB a n d = false := by
      unfold partB
      rcases hb with h | h
      · simp [h]
      · have : decide (0 ≤ n ∧ n ≤ 1000000 ∧ 1 ≤ d ∧ d ≤ 1000000) = false := by simp; omega
        rw [this]; simp
    refine (partI_bad a n d w hb).mono ?_
    rintro e' w' ⟨rfl, rfl⟩
    exact ⟨by simp [partV, e], 0, rfl⟩
  · have ha : okB a = true := by cases h : okB a <;> simp_all
    have hn : 0 ≤ n := by omega
    have hn' : n ≤ 1000000 := by omega
    have hd : 1 ≤ d := by omega
    have hd' : d ≤ 1000000 := by omega
    clear hb
    have h1 := okB_iff.1 ha
    have h2 : 0 ≤ sz a ∧ sz a ≤ 1000000000000000 := by unfold sz; split <;> omega
    have hdec : decide (0 ≤ n ∧ n ≤ 1000000 ∧ 1 ≤ d ∧ d ≤ 1000000) = true := by simp; omega
    cases hf : fitB (sz a / d) n
    · have e : partB a n d = false := by simp [partB, hf]
      have e' : partV a n d = 0 := by simp [partV, e]
      rw [e, e']
      have E := hide e; have E' := hide e'
      clear e e' hdec
      by_cases hs : a < 0
      · go_enter Try.func80, Try.ntmps80
        go_wp2_with (first | (go_at_call 7; refine (okI _ _).mono ?_; rintro e w' ⟨rfl, rfl⟩) | (go_at_call 45; refine (szM _ _ (by omega) (by omega)).mono ?_; rintro e w' ⟨rfl, rfl⟩) | (go_at_call 81; refine (divE_no _ _ _ _ (by omega) (by omega) (by omega) (by omega) (by omega) (by omega) _ hf).mono ?_; rintro e w' ⟨rfl, rfl⟩))
        go_ret2
        exact ⟨rfl, 0, rfl⟩
      · go_enter Try.func80, Try.ntmps80
        go_wp2_with (first | (go_at_call 7; refine (okI _ _).mono ?_; rintro e w' ⟨rfl, rfl⟩) | (go_at_call 45; refine (szM _ _ (by omega) (by omega)).mono ?_; rintro e w' ⟨rfl, rfl⟩) | (go_at_call 81; refine (divE_no _ _ _ _ (by omega) (by omega) (by omega) (by omega) (by omega) (by omega) _ hf).mono ?_; rintro e w' ⟨rfl, rfl⟩))
        go_ret2
        exact ⟨rfl, 0, rfl⟩
    · cases hp : okB (rndE (sz a / d * n + sz a % d * n / d) (sz a % d * n % d) d)
      · have e : partB a n d = false := by simp [partB, hp]
        have e' : partV a n d = 0 := by simp [partV, e]
        rw [e, e']
        clear e e' hdec
        by_cases hs : a < 0
        · go_enter Try.func80, Try.ntmps80
          go_wp2_with (first | (go_at_call 7; refine (okI _ _).mono ?_; rintro e w' ⟨rfl, rfl⟩) | (go_at_call 45; refine (szM _ _ (by omega) (by omega)).mono ?_; rintro e w' ⟨rfl, rfl⟩) | (go_at_call 81; refine (divE_big _ _ _ _ (by omega) (by omega) (by omega) (by omega) (by omega) (by omega) hf hp).mono ?_; rintro e w' ⟨rfl, k, rfl⟩))
          go_ret2
          exact ⟨rfl, _, rfl⟩
        · go_enter Try.func80, Try.ntmps80
          go_wp2_with (first | (go_at_call 7; refine (okI _ _).mono ?_; rintro e w' ⟨rfl, rfl⟩) | (go_at_call 45; refine (szM _ _ (by omega) (by omega)).mono ?_; rintro e w' ⟨rfl, rfl⟩) | (go_at_call 81; refine (divE_big _ _ _ _ (by omega) (by omega) (by omega) (by omega) (by omega) (by omega) hf hp).mono ?_; rintro e w' ⟨rfl, k, rfl⟩))
          go_ret2
          exact ⟨rfl, _, rfl⟩
      · have e : partB a n d = true := by simp only [partB, ha, hdec, hf, hp, Bool.and_self]
        have hb := okB_iff.1 hp
        rw [e]
        by_cases hs : a < 0
        · have e' : partV a n d = -(rndE (sz a / d * n + sz a % d * n / d) (sz a % d * n % d) d) := by simp only [partV, e, hs, if_true]
          rw [e']
          clear e e' hdec
          go_enter Try.func80, Try.ntmps80
          go_wp2_with (first | (go_at_call 7; refine (okI _ _).mono ?_; rintro e w' ⟨rfl, rfl⟩) | (go_at_call 45; refine (szM _ _ (by omega) (by omega)).mono ?_; rintro e w' ⟨rfl, rfl⟩) | (go_at_call 81; refine (divE_yes _ _ _ _ (by omega) (by omega) (by omega) (by omega) (by omega) (by omega) hf hp).mono ?_; rintro e w' ⟨rfl, k, rfl⟩))
          go_ret2
          exact ⟨rfl, _, rfl⟩
        · have e' : partV a n d = rndE (sz a / d * n + sz a % d * n / d) (sz a % d * n % d) d := by simp only [partV, e, hs, if_true, if_false]
          rw [e']
          clear e e' hdec
          go_enter Try.func80, Try.ntmps80
          go_wp2_with (first | (go_at_call 7; refine (okI _ _).mono ?_; rintro e w' ⟨rfl, rfl⟩) | (go_at_call 45; refine (szM _ _ (by omega) (by omega)).mono ?_; rintro e w' ⟨rfl, rfl⟩) | (go_at_call 81; refine (divE_yes _ _ _ _ (by omega) (by omega) (by omega) (by omega) (by omega) (by omega) hf hp).mono ?_; rintro e w' ⟨rfl, k, rfl⟩))
          go_ret2
          exact ⟨rfl, _, rfl⟩
end Go.Proofs.Ytdpefmjlmpjjbaa.Coin
