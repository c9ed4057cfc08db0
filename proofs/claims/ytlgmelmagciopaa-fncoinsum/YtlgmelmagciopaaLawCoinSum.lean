/-
  FnCoinSum: the law's walk.
-/
import Derived.Test.YtlgmelmagciopaaPartS
import Derived.Test.YtlgmelmagciopaaRd2
namespace Go.Proofs.Ytlgmelmagciopaa.Law
set_option linter.unusedVariables false
open Go.RowKit

set_option maxHeartbeats 1600000 in
set_option maxRecDepth 100000 in
theorem coinSum (a0 : Option Addr) (len0 cap0 : Nat) (a1 : Option Addr) (len1 cap1 : Nat) (w : World) (hB : Draw.Bytes w a0 len0 cap0) (hC : Draw.Bytes w a1 len1 cap1) :
    Calls Try.prog 5 #[.slice a0 len0 cap0, .slice a1 len1 cap1] w fun e w' => e = .returned (.bool true) ∧ Below w.heap.size w w' := by
  by_cases hl : 1048576 < len0
  · go_enter Try.func5, Try.ntmps5
    go_wp2
    go_ret
    exact ⟨rfl, Below.refl _ _⟩
  · by_cases hl1 : 1048576 < len1
    · go_enter Try.func5, Try.ntmps5
      go_wp2
      go_ret
      exact ⟨rfl, Below.refl _ _⟩
    · go_enter Try.func5, Try.ntmps5
      go_wp2_with fail
      refine (Draw.drawPart a0 len0 cap0 w hB).mono ?_
      rintro e w1 ⟨a, n, d, rfl, ha, hn, hd, hb⟩
      clear hB hl hl1
      go_wp2_with fail
      refine (Draw.drawAdd a1 len1 cap1 w1 (hC.kept hb)).mono ?_
      rintro e w2 ⟨b, b', rfl, hb1, hb2, hbb⟩
      have hbel := Draw.below_trans hb hbb
      clear hC ha hn hd hb hb1 hb2 hbb
      have p1 := Coin.part_bd a n d
      have p2 := Coin.part_bd b n d
      cases h1 : Coin.addB a b
      · have hs := Coin.addV_no h1
        go_wp2_with (first | (go_at_call 13; refine (Coin.partS _ _ _ _).mono ?_; rintro e w' ⟨rfl, k, rfl⟩) | (go_at_call 12; refine (Coin.partI _ _ _ _).mono ?_; rintro e w' ⟨rfl, k, rfl⟩) | (go_at_call 19; refine (Coin.addI _ _ _).mono ?_; rintro e w' ⟨rfl, rfl⟩))
        go_ret
        exact ⟨rfl, Draw.below_drewN' hbel _⟩
      · have hs := Coin.addV_yes h1
        have p3 := Coin.part_bd (a + b) n d
        cases h2 : Coin.partB a n d
        · go_wp2_with (first | (go_at_call 13; refine (Coin.partS _ _ _ _).mono ?_; rintro e w' ⟨rfl, k, rfl⟩) | (go_at_call 12; refine (Coin.partI _ _ _ _).mono ?_; rintro e w' ⟨rfl, k, rfl⟩) | (go_at_call 19; refine (Coin.addI _ _ _).mono ?_; rintro e w' ⟨rfl, rfl⟩))
          go_ret
          exact ⟨rfl, Draw.below_drewN' hbel _⟩
        · cases h3 : Coin.partB b n d
          · go_wp2_with (first | (go_at_call 13; refine (Coin.partS _ _ _ _).mono ?_; rintro e w' ⟨rfl, k, rfl⟩) | (go_at_call 12; refine (Coin.partI _ _ _ _).mono ?_; rintro e w' ⟨rfl, k, rfl⟩) | (go_at_call 19; refine (Coin.addI _ _ _).mono ?_; rintro e w' ⟨rfl, rfl⟩))
            go_ret
            exact ⟨rfl, Draw.below_drewN' hbel _⟩
          · cases h4 : Coin.partB (a + b) n d
            · go_wp2_with (first | (go_at_call 13; refine (Coin.partS _ _ _ _).mono ?_; rintro e w' ⟨rfl, k, rfl⟩) | (go_at_call 12; refine (Coin.partI _ _ _ _).mono ?_; rintro e w' ⟨rfl, k, rfl⟩) | (go_at_call 19; refine (Coin.addI _ _ _).mono ?_; rintro e w' ⟨rfl, rfl⟩))
              go_ret
              exact ⟨rfl, Draw.below_drewN' hbel _⟩
            · obtain ⟨q1, q2⟩ := Coin.part_sum h4 h2 h3
              go_wp2_with (first | (go_at_call 13; refine (Coin.partS _ _ _ _).mono ?_; rintro e w' ⟨rfl, k, rfl⟩) | (go_at_call 12; refine (Coin.partI _ _ _ _).mono ?_; rintro e w' ⟨rfl, k, rfl⟩) | (go_at_call 19; refine (Coin.addI _ _ _).mono ?_; rintro e w' ⟨rfl, rfl⟩))
              go_ret
              exact ⟨rfl, Draw.below_drewN' hbel _⟩
end Go.Proofs.Ytlgmelmagciopaa.Law
