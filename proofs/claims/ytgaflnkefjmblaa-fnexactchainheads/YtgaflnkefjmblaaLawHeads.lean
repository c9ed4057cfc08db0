/-
  FnExactChainHeads.
-/
import Derived.Test.YtgaflnkefjmblaaLawHead
import Derived.Test.YtgaflnkefjmblaaHeadsC
import Derived.Test.YtgaflnkefjmblaaMarkTx
namespace Go.Proofs.Ytgaflnkefjmblaa.Chain
set_option linter.unusedVariables false
open Go.RowKit
open Txt (S0 TC TR TO toStrS szStrS eqStr sumT size_le_sum markStr)
open Ints (IR eqIntS markIntS heldIntS marks)

theorem ir_of {W : World} {B g c : Nat} {l : List ByteArray} (h : Ints.Own W B g c (headsF l)) : IR W (.slice (some ⟨g, 0, none⟩) (cnt l + 1) c) (headsF l) := by
  have := (cnt_le l).2
  refine .inr ⟨g, 0, c, by rw [headsF_len], by rw [headsF_len]; omega, h.cells⟩
theorem ir_below {W W' : World} {b o n c : Nat} {l : List Int} (h : IR W (.slice (some ⟨b, o, none⟩) n c) l) (hb : Below W.heap.size W W') : IR W' (.slice (some ⟨b, o, none⟩) n c) l :=
  h.kept (Ints.below_grown hb none) (.inr (by simp [Value.ownBlock]))
theorem ir_grown {W W' : World} {b o n c r : Nat} {l : List Int} (h : IR W (.slice (some ⟨b, o, none⟩) n c) l) (hg : W.grownBy W' (some r)) (hne : b ≠ r) : IR W' (.slice (some ⟨b, o, none⟩) n c) l :=
  h.kept hg (.inr (by simpa [Value.ownBlock] using hne))
theorem below_gr {w W W' : World} {r : Nat} (h : Below w.heap.size w W) (hg : W.grownBy W' (some r)) (hr : w.heap.size ≤ r) : Below w.heap.size w W' := h.grown hg h.size (fun k e => by cases e; exact hr)
theorem drewB (W : World) (n : Nat) : Below W.heap.size W (W.drewN n) := ⟨rfl, rfl, rfl, Nat.le_refl _, fun _ _ => rfl⟩
theorem beqT {l : List Int} : (l == l) = true := by simp

set_option maxHeartbeats 4000000 in
theorem lawHeads (v : Value) (l : List ByteArray) (w : World) (h : TR w v l) (hm : l.length ≤ maxLen) (hz : ∀ u ∈ l, u.size ≤ maxLen) :
    Calls Try.prog 8 #[v] w fun e w' => e = .returned (.bool true) ∧ Below w.heap.size w w' := by
  have HZ := hide (szStrS v l 1048576 w h hm hz (Nat.le_refl _))
  have H := hide h
  obtain ⟨a, c, rfl⟩ := h.form
  clear h hz
  have hle4 := (cnt_le l).2
  go_enter Try.func8, Try.ntmps8
  go_wp2_with (fail)
  refine (unhide HZ).mono ?_
  rintro e w' ⟨r, rfl, hw, hr⟩
  replace hw := hw.symm
  subst hw
  rcases hr with rfl | ⟨hle, rfl⟩
  · go_wp2
    go_ret
    exact ⟨rfl, Below.refl _ _⟩
  · obtain ⟨hl, hs⟩ := fits_sz hle (Nat.le_refl _)
    have HS := hide hs
    have r0 : (0 : Int) ≤ ((1048576 - (l.length + sumT l) : Nat) : Int) := by omega
    generalize ((1048576 - (l.length + sumT l) : Nat) : Int) = r at *
    clear hs hle HZ
    go_wp2_with (fail)
    refine (toStrS _ l _ (unhide H) hl).mono ?_
    rintro e w1 ⟨c1, rfl, ht1, hb1⟩
    have HT1 := hide ht1
    clear ht1
    go_wp2_with (fail)
    refine (headsS _ l _ (unhide HT1).tr (by unfold maxLen; omega) (unhide HS)).mono ?_
    rintro e w2 ⟨gw, cw, rfl, ho2, hb2⟩
    have hB2 := below_trans hb1 hb2
    have H2 := hide ((unhide H).kept hB2)
    have R2 := hide (ir_of ho2)
    have lw := ho2.lt
    have z1 := hb1.size
    clear HT1 hb1 hb2 ho2
    go_wp2_with (fail)
    refine (toStrS _ l _ (unhide H2) hl).mono ?_
    rintro e w3 ⟨c3, rfl, ht3, hb3⟩
    have HT3 := hide ht3
    have hB3 := below_trans hB2 hb3
    have R3 := hide (ir_below (unhide R2) hb3)
    have l3 := ht3.1.1
    clear ht3 hb3 R2 H2
    go_wp2_with (fail)
    refine (headsI _ l _ (unhide HT3).tr (by unfold maxLen; omega) (unhide HS)).mono ?_
    rintro e w4 ⟨g, cg, rfl, ho4, hb4⟩
    have hB4 := below_trans hB3 hb4
    have HT4 := hide ((unhide HT3).kept hb4)
    have R4 := hide (ir_below (unhide R3) hb4)
    have G4 := hide (ir_of ho4)
    have lg := ho4.lt
    have z2 := hB2.size
    have z3 := hB3.size
    have z4 := hb4.size
    clear HT3 hB3 hb4 R3 ho4
    have n1 : gw ≠ w2.heap.size := by omega
    have n2 : g ≠ w2.heap.size := by omega
    have n3 : gw ≠ g := by omega
    have m1 : w.heap.size ≤ w2.heap.size := by omega
    have m2 : w.heap.size ≤ g := by omega
    clear lw lg l3 z3 z4
    go_wp2_with (fail)
    refine (eqIntS _ _ _ _ _ (unhide G4) (unhide R4)).mono ?_
    rintro e w5 ⟨rfl, q5, rfl⟩
    rw [beqT]
    have hB5 := below_trans hB4 (drewB w4 q5)
    have HT5 := hide ((unhide HT4).kept (drewB w4 q5))
    have R5 := hide (ir_below (unhide R4) (drewB w4 q5))
    have G5 := hide (ir_below (unhide G4) (drewB w4 q5))
    have H5 := hide ((unhide H).kept hB5)
    clear HT4 R4 G4 hB4
    generalize w4.drewN q5 = w5 at *
    go_wp2_with (fail)
    refine (toStrS _ l _ (unhide H5) hl).mono ?_
    rintro e w6 ⟨c6, rfl, ht6, hb6⟩
    have hB6 := below_trans hB5 hb6
    have HT6 := hide ((unhide HT5).kept hb6)
    have HU6 := hide ht6
    have R6 := hide (ir_below (unhide R5) hb6)
    have G6 := hide (ir_below (unhide G5) hb6)
    clear HT5 R5 G5 hB5 ht6 H5 hb6
    go_wp2_with (fail)
    refine (eqStr _ _ l l _ (unhide HT6).tr (unhide HU6).tr (by unfold maxLen; omega) (by unfold maxLen; omega)).mono ?_
    rintro e w7 ⟨rfl, q7, rfl⟩
    rw [decT rfl]
    have hB7 := below_trans hB6 (drewB w6 q7)
    have HT7 := hide ((unhide HT6).kept (drewB w6 q7))
    have R7 := hide (ir_below (unhide R6) (drewB w6 q7))
    have G7 := hide (ir_below (unhide G6) (drewB w6 q7))
    clear HT6 R6 G6 hB6 HU6
    generalize w6.drewN q7 = w7 at *
    go_wp2_with (fail)
    refine (markStr w2.heap.size c3 l 1 w7 (unhide HT7) hl (by omega) (by omega)).mono ?_
    rintro e w8 ⟨rfl, _, hg8⟩
    have hB8 := below_gr hB7 hg8 m1
    have R8 := hide (ir_grown (unhide R7) hg8 n1)
    have G8 := hide (ir_grown (unhide G7) hg8 n2)
    have k8 : ¬ ((1 + l.length : Nat) : Int) < 0 := by omega
    generalize ((1 + l.length : Nat) : Int) = k8v at *
    clear HT7 R7 G7 hB7 hg8
    go_wp2_with (fail)
    refine (eqIntS _ _ _ _ _ (unhide G8) (unhide R8)).mono ?_
    rintro e w9 ⟨rfl, q9, rfl⟩
    rw [beqT]
    have hB9 := below_trans hB8 (drewB w8 q9)
    have R9 := hide (ir_below (unhide R8) (drewB w8 q9))
    have G9 := hide (ir_below (unhide G8) (drewB w8 q9))
    clear R8 G8 hB8
    generalize w8.drewN q9 = w9 at *
    go_wp2_with (fail)
    refine (markIntS _ (headsF l) 1 w9 (unhide G9) (by omega) (by omega)).mono ?_
    rintro e w10 ⟨he, hm10, hg10⟩
    rw [headsF_len] at he hm10
    obtain ⟨M, hM⟩ : ∃ M : Int, 1 + ((cnt l + 1 : Nat) : Int) = M := ⟨_, rfl⟩
    rw [hM] at he
    subst he
    have kM : ¬ M < 0 := by omega
    have HQ : Hid (∀ W, IR W (.slice (some ⟨g, 0, none⟩) (cnt l + 1) cg) (marks 1 (cnt l + 1)) → Calls Try.prog 31 #[.slice (some ⟨g, 0, none⟩) (cnt l + 1) cg, .int .i64 1] W fun e w' => e = .returned (.int .i64 M) ∧ w' = W) := hide (fun W hW => hM ▸ heldIntS _ (cnt l + 1) 1 W hW (by omega) (by omega))
    have HM := hide hM
    clear hM
    have hg10' : w9.grownBy w10 (some g) := hg10
    have hB10 := below_gr hB9 hg10' m2
    have R10 := hide (ir_grown (unhide R9) hg10' n3)
    have M10 := hide hm10
    have H10 := hide ((unhide H).kept hB10)
    clear R9 G9 hB9 hg10 hg10' hm10
    go_wp2_with (fail)
    refine (unhide HQ _ (unhide M10)).mono ?_
    rintro e w11 ⟨rfl, hw⟩
    replace hw := hw.symm
    subst hw
    go_wp2_with (fail)
    refine (toStrS _ l _ (unhide H10) hl).mono ?_
    rintro e w12 ⟨c12, rfl, ht12, hb12⟩
    have hB12 := below_trans hB10 hb12
    have R12 := hide (ir_below (unhide R10) hb12)
    have M12 := hide (ir_below (unhide M10) hb12)
    have HT12 := hide ht12
    clear R10 M10 H10 hB10 ht12 hb12
    go_wp2_with (fail)
    refine (headsI _ l _ (unhide HT12).tr (by unfold maxLen; omega) (unhide HS)).mono ?_
    rintro e w13 ⟨g13, c13, rfl, ho13, hb13⟩
    have hB13 := below_trans hB12 hb13
    have R13 := hide (ir_below (unhide R12) hb13)
    have M13 := hide (ir_below (unhide M12) hb13)
    have G13 := hide (ir_of ho13)
    clear R12 M12 HT12 hB12 ho13 hb13
    go_wp2_with (fail)
    refine (eqIntS _ _ _ _ _ (unhide G13) (unhide R13)).mono ?_
    rintro e w14 ⟨rfl, q14, rfl⟩
    rw [beqT]
    have hB14 := below_trans hB13 (drewB w13 q14)
    have M14 := hide (ir_below (unhide M13) (drewB w13 q14))
    clear R13 M13 G13 hB13
    generalize w13.drewN q14 = w14 at *
    go_wp2_with (fail)
    refine (unhide HQ _ (unhide M14)).mono ?_
    rintro e w15 ⟨rfl, hw⟩
    replace hw := hw.symm
    subst hw
    go_wp2
    go_ret
    exact ⟨rfl, hB14⟩
end Go.Proofs.Ytgaflnkefjmblaa.Chain
