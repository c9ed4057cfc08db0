/-
  FnCoinPart: the law's walk.
-/
import Derived.Test.YtlgmelmagciopaaPartS
import Derived.Test.YtlgmelmagciopaaRd2
namespace Go.Proofs.Ytlgmelmagciopaa.Law
set_option linter.unusedVariables false
open Go.RowKit

set_option maxHeartbeats 1600000 in
set_option maxRecDepth 100000 in
theorem coinPart (a0 : Option Addr) (len0 cap0 : Nat) (w : World) (hB : Draw.Bytes w a0 len0 cap0) :
    Calls Try.prog 3 #[.slice a0 len0 cap0] w fun e w' => e = .returned (.bool true) ∧ Below w.heap.size w w' := by
  by_cases hl : 1048576 < len0
  · go_enter Try.func3, Try.ntmps3
    go_wp2
    go_ret
    exact ⟨rfl, Below.refl _ _⟩
  · go_enter Try.func3, Try.ntmps3
    go_wp2_with fail
    refine (Draw.drawPart a0 len0 cap0 w hB).mono ?_
    rintro e w1 ⟨a, n, d, rfl, ha, hn, hd, hb⟩
    clear hB hl
    obtain ⟨ha1, ha2⟩ := ha
    obtain ⟨hn1, hn2⟩ := hn
    obtain ⟨hd1, hd2⟩ := hd
    obtain ⟨hv1, hv2⟩ := Coin.part_bd a n d
    have e1 := Coin.partB_neg a n d
    have e2 := Coin.partV_neg a n d
    cases hok : Coin.okB a
    · have hp : Coin.partB a n d = false := by simp [Coin.partB, hok]
      rw [hp] at e1
      go_wp2_with (first | (go_at_call 13; refine (Coin.partS _ _ _ _).mono ?_; rintro e w' ⟨rfl, k, rfl⟩) | (go_at_call 12; refine (Coin.partI _ _ _ _).mono ?_; rintro e w' ⟨rfl, k, rfl⟩) | (go_at_call 14; refine (Coin.okS _ _).mono ?_; rintro e w' ⟨rfl, rfl⟩))
      go_ret
      exact ⟨rfl, Draw.below_drewN' hb _⟩
    · obtain ⟨hA, hAV⟩ := Coin.part_all hok
      have hk1 : 0 ≤ a → Coin.okB (a / 10000 * 10000) = true := fun h => Coin.okB_true (by have := Coin.okB_iff.1 hok; omega)
      have tdv : ¬ 0 ≤ a → a.tdiv 10000 = -(-a / 10000) := fun h => by
        have := Int.neg_tdiv (-a) 10000
        rw [Int.neg_neg] at this
        rw [this, Int.tdiv_eq_ediv_of_nonneg (by omega)]
      have hk2 : ¬ 0 ≤ a → Coin.okB (-(-a / 10000) * 10000) = true := fun h => Coin.okB_true (by have := Coin.okB_iff.1 hok; omega)
      cases hp : Coin.partB a n d
      · rw [hp] at e1
        by_cases hs : 0 ≤ a
        · have hk := hk1 hs
          clear hk1 hk2 tdv
          go_wp2_with (first | (go_at_call 13; refine (Coin.partS _ _ _ _).mono ?_; rintro e w' ⟨rfl, k, rfl⟩) | (go_at_call 12; refine (Coin.partI _ _ _ _).mono ?_; rintro e w' ⟨rfl, k, rfl⟩) | (go_at_call 14; refine (Coin.okS _ _).mono ?_; rintro e w' ⟨rfl, rfl⟩))
          go_ret
          exact ⟨rfl, Draw.below_drewN' hb _⟩
        · have hk := hk2 hs
          have td := tdv hs
          clear hk1 hk2 tdv
          go_wp2_with (first | (go_at_call 13; refine (Coin.partS _ _ _ _).mono ?_; rintro e w' ⟨rfl, k, rfl⟩) | (go_at_call 12; refine (Coin.partI _ _ _ _).mono ?_; rintro e w' ⟨rfl, k, rfl⟩) | (go_at_call 14; refine (Coin.okS _ _).mono ?_; rintro e w' ⟨rfl, rfl⟩))
          go_ret
          exact ⟨rfl, Draw.below_drewN' hb _⟩
      · rw [hp] at e1
        have hi := Coin.partB_iff hp
        have hn3 := hi.2.1
        have hn4 := hi.2.2.1
        have hd3 := hi.2.2.2.1
        clear hi
        have hbig : 1000000000 < a ∨ a < -1000000000 ∨ (-1000000000 ≤ a ∧ a ≤ 1000000000) := by omega
        obtain ⟨o1, o2, o3, o4⟩ := Coin.part_off hp
        have O3 := Coin.hide o3
        have O4 := Coin.hide o4
        clear o3 o4
        by_cases hs : 0 ≤ a
        · have hk := hk1 hs
          clear hk1 hk2 tdv
          rcases hbig with hbig | hbig | ⟨hb1, hb2⟩
          · clear o1 o2
            go_wp2_with (first | (go_at_call 13; refine (Coin.partS _ _ _ _).mono ?_; rintro e w' ⟨rfl, k, rfl⟩) | (go_at_call 12; refine (Coin.partI _ _ _ _).mono ?_; rintro e w' ⟨rfl, k, rfl⟩) | (go_at_call 14; refine (Coin.okS _ _).mono ?_; rintro e w' ⟨rfl, rfl⟩))
            go_ret
            exact ⟨rfl, Draw.below_drewN' hb _⟩
          · omega
          · have m1 : a * n ≤ 1000000000000000 ∧ -1000000000000000 ≤ a * n := Coin.mul_bd hb1 hb2 hn3 hn4
            by_cases x1 : 2 * (a * n - Coin.partV a n d * d) = d
            · have tm : ((Coin.partV a n d).tmod 2 == 0) = true := by simpa using O3.out x1
              have x1' : (2 * (a * n - Coin.partV a n d * d) != d) = false := by simpa using x1
              clear x1
              go_wp2_with (first | (go_at_call 13; refine (Coin.partS _ _ _ _).mono ?_; rintro e w' ⟨rfl, k, rfl⟩) | (go_at_call 12; refine (Coin.partI _ _ _ _).mono ?_; rintro e w' ⟨rfl, k, rfl⟩) | (go_at_call 14; refine (Coin.okS _ _).mono ?_; rintro e w' ⟨rfl, rfl⟩))
              go_ret
              exact ⟨rfl, Draw.below_drewN' hb _⟩
            · have x1' : (2 * (a * n - Coin.partV a n d * d) != d) = true := by simpa using x1
              clear x1
              by_cases x2 : 2 * (a * n - Coin.partV a n d * d) = -d
              · have tm : ((Coin.partV a n d).tmod 2 == 0) = true := by simpa using O4.out x2
                have x2' : (2 * (a * n - Coin.partV a n d * d) != -d) = false := by simpa using x2
                clear x2
                go_wp2_with (first | (go_at_call 13; refine (Coin.partS _ _ _ _).mono ?_; rintro e w' ⟨rfl, k, rfl⟩) | (go_at_call 12; refine (Coin.partI _ _ _ _).mono ?_; rintro e w' ⟨rfl, k, rfl⟩) | (go_at_call 14; refine (Coin.okS _ _).mono ?_; rintro e w' ⟨rfl, rfl⟩))
                go_ret
                exact ⟨rfl, Draw.below_drewN' hb _⟩
              · have x2' : (2 * (a * n - Coin.partV a n d * d) != -d) = true := by simpa using x2
                clear x2
                go_wp2_with (first | (go_at_call 13; refine (Coin.partS _ _ _ _).mono ?_; rintro e w' ⟨rfl, k, rfl⟩) | (go_at_call 12; refine (Coin.partI _ _ _ _).mono ?_; rintro e w' ⟨rfl, k, rfl⟩) | (go_at_call 14; refine (Coin.okS _ _).mono ?_; rintro e w' ⟨rfl, rfl⟩))
                go_ret
                exact ⟨rfl, Draw.below_drewN' hb _⟩
        · have hk := hk2 hs
          have td := tdv hs
          clear hk1 hk2 tdv
          rcases hbig with hbig | hbig | ⟨hb1, hb2⟩
          · clear o1 o2
            go_wp2_with (first | (go_at_call 13; refine (Coin.partS _ _ _ _).mono ?_; rintro e w' ⟨rfl, k, rfl⟩) | (go_at_call 12; refine (Coin.partI _ _ _ _).mono ?_; rintro e w' ⟨rfl, k, rfl⟩) | (go_at_call 14; refine (Coin.okS _ _).mono ?_; rintro e w' ⟨rfl, rfl⟩))
            go_ret
            exact ⟨rfl, Draw.below_drewN' hb _⟩
          · clear o1 o2
            go_wp2_with (first | (go_at_call 13; refine (Coin.partS _ _ _ _).mono ?_; rintro e w' ⟨rfl, k, rfl⟩) | (go_at_call 12; refine (Coin.partI _ _ _ _).mono ?_; rintro e w' ⟨rfl, k, rfl⟩) | (go_at_call 14; refine (Coin.okS _ _).mono ?_; rintro e w' ⟨rfl, rfl⟩))
            go_ret
            exact ⟨rfl, Draw.below_drewN' hb _⟩
          · have m1 : a * n ≤ 1000000000000000 ∧ -1000000000000000 ≤ a * n := Coin.mul_bd hb1 hb2 hn3 hn4
            by_cases x1 : 2 * (a * n - Coin.partV a n d * d) = d
            · have tm : ((Coin.partV a n d).tmod 2 == 0) = true := by simpa using O3.out x1
              have x1' : (2 * (a * n - Coin.partV a n d * d) != d) = false := by simpa using x1
              clear x1
              go_wp2_with (first | (go_at_call 13; refine (Coin.partS _ _ _ _).mono ?_; rintro e w' ⟨rfl, k, rfl⟩) | (go_at_call 12; refine (Coin.partI _ _ _ _).mono ?_; rintro e w' ⟨rfl, k, rfl⟩) | (go_at_call 14; refine (Coin.okS _ _).mono ?_; rintro e w' ⟨rfl, rfl⟩))
              go_ret
              exact ⟨rfl, Draw.below_drewN' hb _⟩
            · have x1' : (2 * (a * n - Coin.partV a n d * d) != d) = true := by simpa using x1
              clear x1
              by_cases x2 : 2 * (a * n - Coin.partV a n d * d) = -d
              · have tm : ((Coin.partV a n d).tmod 2 == 0) = true := by simpa using O4.out x2
                have x2' : (2 * (a * n - Coin.partV a n d * d) != -d) = false := by simpa using x2
                clear x2
                go_wp2_with (first | (go_at_call 13; refine (Coin.partS _ _ _ _).mono ?_; rintro e w' ⟨rfl, k, rfl⟩) | (go_at_call 12; refine (Coin.partI _ _ _ _).mono ?_; rintro e w' ⟨rfl, k, rfl⟩) | (go_at_call 14; refine (Coin.okS _ _).mono ?_; rintro e w' ⟨rfl, rfl⟩))
                go_ret
                exact ⟨rfl, Draw.below_drewN' hb _⟩
              · have x2' : (2 * (a * n - Coin.partV a n d * d) != -d) = true := by simpa using x2
                clear x2
                go_wp2_with (first | (go_at_call 13; refine (Coin.partS _ _ _ _).mono ?_; rintro e w' ⟨rfl, k, rfl⟩) | (go_at_call 12; refine (Coin.partI _ _ _ _).mono ?_; rintro e w' ⟨rfl, k, rfl⟩) | (go_at_call 14; refine (Coin.okS _ _).mono ?_; rintro e w' ⟨rfl, rfl⟩))
                go_ret
                exact ⟨rfl, Draw.below_drewN' hb _⟩

end Go.Proofs.Ytlgmelmagciopaa.Law
