/-
  FnExactChainClash.
-/
import Derived.Test.YtgaflnkefjmblaaLawHead
import Derived.Test.YtgaflnkefjmblaaClashI
namespace Go.Proofs.Ytgaflnkefjmblaa.Chain
set_option linter.unusedVariables false
open Go.RowKit
open Txt (S0 TC TR TO toStrS szStrS eqStr sumT size_le_sum)

set_option maxHeartbeats 4000000 in
theorem lawClash (va vb : Value) (l m : List ByteArray) (w : World) (ha : TR w va l) (la : l.length ≤ maxLen) (za : ∀ u ∈ l, u.size ≤ maxLen) (hb : TR w vb m) (lb : m.length ≤ maxLen) (zb : ∀ u ∈ m, u.size ≤ maxLen) :
    Calls Try.prog 10 #[va, vb] w fun e w' => e = .returned (.bool true) ∧ Below w.heap.size w w' := by
  have HZ := hide (szStrS va l 1048576 w ha la za (Nat.le_refl _))
  have HZ2 : Hid (∀ n : Nat, n ≤ 1048576 → Calls Try.prog 24 #[vb, .int .i64 n] w fun e w' => ∃ r : Int, e = .returned (.int .i64 r) ∧ w' = w ∧ (r = -1 ∨ (m.length + sumT m ≤ n ∧ r = ((n - (m.length + sumT m) : Nat) : Int)))) := hide (fun n hn => szStrS vb m n w hb lb zb hn)
  have HA := hide ha
  have HB := hide hb
  obtain ⟨a, c, rfl⟩ := ha.form
  obtain ⟨a2, c2, rfl⟩ := hb.form
  clear ha hb za zb
  go_enter Try.func10, Try.ntmps10
  go_wp2_with (fail)
  refine (unhide HZ).mono ?_
  rintro e w' ⟨r, rfl, hw, hr⟩
  replace hw := hw.symm
  subst hw
  rcases hr with rfl | ⟨hle, rfl⟩
  · go_wp2
    go_ret
    exact ⟨rfl, Below.refl _ _⟩
  obtain ⟨hl, hs⟩ := fits_sz hle (Nat.le_refl _)
  have SA := hide hs
  generalize hn1 : 1048576 - (l.length + sumT l) = n1 at *
  have b1 : n1 ≤ 1048576 := by omega
  have r1 : (0 : Int) ≤ (n1 : Int) := by omega
  clear hs hle HZ hn1
  go_wp2_with (fail)
  refine (unhide HZ2 n1 b1).mono ?_
  rintro e w' ⟨r, rfl, hw, hr⟩
  replace hw := hw.symm
  subst hw
  rcases hr with rfl | ⟨hle, rfl⟩
  · go_wp2
    go_ret
    exact ⟨rfl, Below.refl _ _⟩
  obtain ⟨hl2, hs⟩ := fits_sz hle b1
  have SB := hide hs
  have r2 : (0 : Int) ≤ ((n1 - (m.length + sumT m) : Nat) : Int) := by omega
  generalize ((n1 - (m.length + sumT m) : Nat) : Int) = r at *
  clear hs hle HZ2
  go_wp2_with (fail)
  refine (toStrS _ l _ (unhide HA) hl).mono ?_
  rintro e w1 ⟨c1, rfl, ht1, hb1⟩
  have T1 := hide ht1
  have B1 := hide ((unhide HB).kept hb1)
  clear ht1
  go_wp2_with (fail)
  refine (toStrS _ m _ (unhide B1) hl2).mono ?_
  rintro e w2 ⟨c2', rfl, ht2, hb2⟩
  have T2 := hide ht2
  have T12 := hide ((unhide T1).kept hb2)
  have hB2 := below_trans hb1 hb2
  clear ht2 T1 B1 hb1 hb2
  go_wp2_with (fail)
  refine (clashS _ _ l m _ (unhide T12).tr (unhide T2).tr (by unfold maxLen; omega) (by unfold maxLen; omega) (unhide SA) (unhide SB)).mono ?_
  rintro e w3 ⟨rfl, hb3⟩
  have hB3 := below_trans hB2 hb3
  have A3 := hide ((unhide HA).kept hB3)
  clear T12 T2 hb3 hB2
  obtain ⟨C, hC⟩ : ∃ C, clashF l m = C := ⟨_, rfl⟩
  rw [hC]
  have HC := hide hC
  clear hC
  obtain ⟨p, q, t⟩ := C
  go_wp2_with (fail)
  refine (toStrS _ l _ (unhide A3) hl).mono ?_
  rintro e w4 ⟨c4, rfl, ht4, hb4⟩
  have T4 := hide ht4
  have hB4 := below_trans hB3 hb4
  have B4 := hide ((unhide HB).kept hB4)
  clear ht4 A3 hB3 hb4
  go_wp2_with (fail)
  refine (toStrS _ m _ (unhide B4) hl2).mono ?_
  rintro e w5 ⟨c5, rfl, ht5, hb5⟩
  have T5 := hide ht5
  have T45 := hide ((unhide T4).kept hb5)
  have hB5 := below_trans hB4 hb5
  clear ht5 T4 B4 hB4 hb5
  go_wp2_with (fail)
  refine (clashI _ _ l m _ (unhide T45).tr (unhide T5).tr (by unfold maxLen; omega) (by unfold maxLen; omega) (unhide SA) (unhide SB)).mono ?_
  rintro e w6 ⟨rfl, hb6⟩
  rw [unhide HC]
  have hB6 := below_trans hB5 hb6
  have T46 := hide ((unhide T45).kept hb6)
  have T56 := hide ((unhide T5).kept hb6)
  have A6 := hide ((unhide HA).kept hB6)
  clear T45 T5 hb6 hB5
  go_wp2_with (fail)
  refine (toStrS _ l _ (unhide A6) hl).mono ?_
  rintro e w7 ⟨c7, rfl, ht7, hb7⟩
  have hB7 := below_trans hB6 hb7
  have T47 := hide ((unhide T46).kept hb7)
  have T57 := hide ((unhide T56).kept hb7)
  have T7 := hide ht7
  clear T46 T56 A6 ht7 hb7 hB6
  go_wp2_with (fail)
  refine (eqStr _ _ l l _ (unhide T47).tr (unhide T7).tr (by unfold maxLen; omega) (by unfold maxLen; omega)).mono ?_
  rintro e w8 ⟨rfl, k8, rfl⟩
  rw [decT rfl]
  have hB8 := below_trans hB7 (drewN_below w7 k8)
  have T58 := hide ((unhide T57).kept (drewN_below w7 k8))
  have B8 := hide ((unhide HB).kept hB8)
  clear T47 T57 T7 hB7
  generalize w7.drewN k8 = w8 at *
  go_wp2_with (fail)
  refine (toStrS _ m _ (unhide B8) hl2).mono ?_
  rintro e w9 ⟨c9, rfl, ht9, hb9⟩
  have hB9 := below_trans hB8 hb9
  have T59 := hide ((unhide T58).kept hb9)
  have T9 := hide ht9
  clear T58 B8 ht9 hb9 hB8
  go_wp2_with (fail)
  refine (eqStr _ _ m m _ (unhide T59).tr (unhide T9).tr (by unfold maxLen; omega) (by unfold maxLen; omega)).mono ?_
  rintro e w10 ⟨rfl, k10, rfl⟩
  rw [decT rfl]
  have hB10 := below_trans hB9 (drewN_below w9 k10)
  go_wp2
  go_ret
  exact ⟨rfl, hB10⟩
end Go.Proofs.Ytgaflnkefjmblaa.Chain
