/-
  FnExactChainHead, FnExactChainCheck.
-/
import Derived.Test.YtgaflnkefjmblaaHeadsS
namespace Go.Proofs.Ytgaflnkefjmblaa.Chain
set_option linter.unusedVariables false
open Go.RowKit
open Txt (S0 TC TR TO toStrS szStrS eqStr sumT size_le_sum)

theorem drewN_below (w : World) (n : Nat) : Below w.heap.size w (w.drewN n) := ⟨rfl, rfl, rfl, Nat.le_refl _, fun _ _ => rfl⟩
/-- what a size that fits says -/
theorem fits_sz {l : List ByteArray} {n : Nat} (h : l.length + sumT l ≤ n) (hn : n ≤ 1048576) : l.length ≤ 1048576 ∧ ∀ u ∈ l, u.size ≤ 100000000 :=
  ⟨by omega, fun u hu => by have := size_le_sum hu; omega⟩
theorem decT {p : Prop} [Decidable p] (h : p) : decide p = true := decide_eq_true h

set_option maxHeartbeats 2000000 in
theorem lawHead (v : Value) (l : List ByteArray) (w : World) (h : TR w v l) (hm : l.length ≤ maxLen) (hz : ∀ u ∈ l, u.size ≤ maxLen) :
    Calls Try.prog 7 #[v] w fun e w' => e = .returned (.bool true) ∧ Below w.heap.size w w' := by
  have HZ := hide (szStrS v l 1048576 w h hm hz (Nat.le_refl _))
  have H := hide h
  obtain ⟨a, c, rfl⟩ := h.form
  clear h hz
  go_enter Try.func7, Try.ntmps7
  go_wp2_with (fail)
  refine (unhide HZ).mono ?_
  rintro e w' ⟨r, rfl, hw, hr⟩
  replace hw := hw.symm
  subst hw
  rcases hr with rfl | ⟨hle, rfl⟩
  · go_wp2
    go_ret
    exact ⟨rfl, Below.refl _ _⟩
  · obtain ⟨hl, hs⟩ := fits_sz hle (Nat.le_refl _)
    have HS := hide hs
    have r0 : (0 : Int) ≤ ((1048576 - (l.length + sumT l) : Nat) : Int) := by omega
    generalize ((1048576 - (l.length + sumT l) : Nat) : Int) = r at *
    clear hs hle HZ
    go_wp2_with (fail)
    refine (toStrS _ l _ (unhide H) hl).mono ?_
    rintro e w1 ⟨c1, rfl, ht1, hb1⟩
    have HT1 := hide ht1
    clear ht1
    go_wp2_with (fail)
    refine (headS _ l _ (unhide HT1).tr (by unfold maxLen; omega) (unhide HS)).mono ?_
    rintro e w2 ⟨rfl, hb2⟩
    have hB2 := below_trans hb1 hb2
    have H2 := hide ((unhide H).kept hB2)
    clear HT1 hb1 hb2
    go_wp2_with (fail)
    refine (toStrS _ l _ (unhide H2) hl).mono ?_
    rintro e w3 ⟨c3, rfl, ht3, hb3⟩
    have HT3 := hide ht3
    have hB3 := below_trans hB2 hb3
    clear ht3 hB2
    go_wp2_with (fail)
    refine (headI _ l _ (unhide HT3).tr (by unfold maxLen; omega) (unhide HS)).mono ?_
    rintro e w4 ⟨rfl, hb4⟩
    have hB4 := below_trans hB3 hb4
    have HT4 := hide ((unhide HT3).kept hb4)
    have H4 := hide ((unhide H).kept hB4)
    clear HT3 hB3 hb3 hb4
    go_wp2_with (fail)
    refine (toStrS _ l _ (unhide H4) hl).mono ?_
    rintro e w5 ⟨c5, rfl, ht5, hb5⟩
    have HT5 := hide ht5
    have hB5 := below_trans hB4 hb5
    have HT45 := hide ((unhide HT4).kept hb5)
    clear ht5 hB4
    go_wp2_with (fail)
    refine (eqStr _ _ l l _ (unhide HT45).tr (unhide HT5).tr (by unfold maxLen; omega) (by unfold maxLen; omega)).mono ?_
    rintro e w6 ⟨rfl, q, rfl⟩
    rw [decT rfl]
    have hB6 := below_trans hB5 (drewN_below w5 q)
    go_wp2
    go_ret
    exact ⟨rfl, hB6⟩
end Go.Proofs.Ytgaflnkefjmblaa.Chain
