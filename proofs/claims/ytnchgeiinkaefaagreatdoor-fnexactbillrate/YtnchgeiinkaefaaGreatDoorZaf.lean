/-
  Texts of this proof laid together, in build order; each says of itself what it holds.
-/
import Derived.Test.YtnchgeiinkaefaaGreatDoorZae
import Derived.Test.YtnchgeiinkaefaaGreatDoorZab
import Derived.Test.YtnchgeiinkaefaaGreatDoorZad
import Derived.Test.YtnchgeiinkaefaaGreatDoorZaa
import Derived.Laws.IdiomStrings
section
/-
  spec.l4Spread, walked.
-/
namespace Go.Proofs.YtnchgeiinkaefaaGreatDoor.Tax
set_option linter.unusedVariables false
open Go.RowKit
open Evs (E E0 ER EC hide unhide below_trans below_drewN')
open BRow (R R0 RC ROwn)
open Ints (Cells)

set_option maxRecDepth 20000 in
set_option maxHeartbeats 4000000 in
theorem spreadS (w0 : World) (tv : Value) (t : List E) (b c n : Nat) (l : List R) (q S tax : Int) (w : World) (hT : ER w0 tv t) (hB : Below w0.heap.size w0 w) (hR : ROwn w b l) (hb : w0.heap.size ≤ b)
    (hn : l.length = n) (ht : t.length = n) (h6 : n ≤ 6) (hN : ∀ j, j < n → 0 ≤ netF l j ∧ netF l j ≤ 1000000000000000) (q0 : 0 ≤ q) (q1 : q ≤ 5000) (hx : 0 ≤ tax ∧ tax ≤ 1000000000000000) :
    Calls Tryz.prog 39 #[tv, .slice (some ⟨b, 0, none⟩) n c, .int .i64 q, .int .i64 S, .int .i64 tax] w fun e w' => e = .returned (.slice (some ⟨b, 0, none⟩) n c) ∧ ROwn w' b (rowsF l (spreadF (netF l) (rateF t) (oldF l) n q S tax)) ∧ Below w0.heap.size w0 w' := by
  obtain ⟨ta, tc, rfl⟩ := hT.slice
  subst ht
  obtain ⟨x0, x1⟩ := hx
  have hmk := run_make_row' (P := Tryz.prog) 91 3 (.int .i64 0) 8 Tryz.underlying91 Ints.info rfl .i64 .i64 t.length (by omega) (by omega)
  have HT := hide hT
  have HN := hide hN
  have HL := hide hn
  have hbw : b < w.heap.size := hR.1.1
  obtain ⟨G, hG⟩ : ∃ G, G = grp (rateF t) q S := ⟨_, rfl⟩
  have HG := hide hG
  have HSB : Hid (∀ k, k ≤ t.length → 0 ≤ sumG G (partJ (netF l) q) k ∧ sumG G (partJ (netF l) q) k ≤ 3000000000030000) := hide (fun k hk => by
    have := sumG_bd (g := G) (f := partJ (netF l) q) (m := 500000000005000) (by omega) k (fun i hi => by
      obtain ⟨h0, h1⟩ := hN i (by omega)
      exact (partJ_bd h0 h1 q0 q1).2.2.2.2.2.1)
    have h2 : (k : Int) * 500000000005000 ≤ 6 * 500000000005000 := Int.mul_le_mul_of_nonneg_right (by omega) (by omega)
    omega)
  have hRA : Hid (ROwn (w.alloc (.cells (madeCells #[.int .i64 0] t.length) 3)) b l) := hide (hR.kept ((Below.refl _ _).alloc (Nat.le_refl _) _))
  have hBA : Hid (Below w0.heap.size w0 (w.alloc (.cells (madeCells #[.int .i64 0] t.length) 3))) := hide (below_trans hB ((Below.refl _ _).alloc (Nat.le_refl _) _))
  clear hT hN hn hR hB hG
  go_enter Tryz.func39, Tryz.ntmps39
  go_wp2
  go_loopw [11, 13] (fun lv s wr => ∃ k : Nat, k ≤ t.length ∧ s = .int .i64 k ∧ lv = .int .i64 (tax - sumG G (partJ (netF l) q) k) ∧ Hid (ROwn wr b (rowsF l (tax1 (netF l) (oldF l) G q k))) ∧ Hid (Cells wr w.heap.size 0 (restL t.length (rest1 (netF l) G q k))) ∧ Hid (Below w0.heap.size w0 wr)) (fun _ s _ => t.length - (intOf s).toNat)
  case atStart =>
    refine ⟨0, Nat.zero_le _, rfl, by simp [sumG], ?_, ?_, hBA⟩
    · have e : rowsF l (tax1 (netF l) (oldF l) G q 0) = l := by
        rw [show tax1 (netF l) (oldF l) G q 0 = oldF l from funext fun j => by simp [tax1]]
        exact rowsF_old l
      rw [e]; exact hRA
    · have e : restL t.length (rest1 (netF l) G q 0) = List.replicate t.length 0 := by
        rw [show rest1 (netF l) G q 0 = fun _ => 0 from funext fun j => by simp [rest1]]
        exact (restL_zero _).symm
      rw [e]; exact Cells.made w t.length _
  case round =>
    obtain ⟨k, hk, rfl, rfl, D1, D2, D3⟩ := hrel
    clear hmk hRA hBA
    have hsk := unhide HSB k hk
    have hgw : w.heap.size < wr.heap.size := (unhide D2).1
    by_cases hlt : k < t.length
    · obtain ⟨b2, o2, cap2, hcf, hc⟩ : ∃ b2 o2 cap2, Value.slice ta t.length tc = .slice (some ⟨b2, o2, none⟩) t.length cap2 ∧ EC w0 b2 o2 t := by
        rcases unhide HT with ⟨h, _⟩ | h
        · rw [h] at hlt; simp at hlt
        · exact h
      simp only [Value.slice.injEq, true_and] at hcf
      obtain ⟨rfl, rfl⟩ := hcf
      have c1 := ((hc.kept (unhide D3)).2 k hlt).2.2
      have hll := unhide HL
      have hkl : k < (rowsF l (tax1 (netF l) (oldF l) G q k)).length := by rw [rowsF_len]; omega
      obtain ⟨_, r1, r2⟩ := (unhide D1).1.2 k hkl
      have f2 := (unhide D1).2 (k * 3 + 2)
      rw [rowsF_get _ _ (by omega), Nat.zero_add] at r1 r2
      simp only at r1 r2
      obtain ⟨s0, f0⟩ := (unhide D2).2 k (by rw [restL_len]; exact hlt)
      rw [Nat.zero_add] at s0 f0
      have k1 : (0 : Int) ≤ (k : Int) := by omega
      have k2 : (k : Int) < (t.length : Int) := by omega
      have hGk : G k = (decide (rateF t k = q) && decide (0 < S)) := by rw [unhide HG]; rfl
      have hbne : w.heap.size ≠ b := by omega
      cases hg : G k with
      | false =>
        have E1 : Hid (rowsF l (tax1 (netF l) (oldF l) G q (k + 1)) = rowsF l (tax1 (netF l) (oldF l) G q k)) := hide (rowsF_congr l (fun j _ => tax1_no hg j))
        have E2 : Hid (restL t.length (rest1 (netF l) G q (k + 1)) = restL t.length (rest1 (netF l) G q k)) := hide (restL_congr (fun j _ => rest1_no hg j))
        have E3 : Hid (sumG G (partJ (netF l) q) (k + 1) = sumG G (partJ (netF l) q) k) := hide (by rw [sumG, hg]; simp)
        rw [hg] at hGk
        clear s0 f0 r1 r2 f2 hg hc hkl
        by_cases he : rateF t k = q
        · have hS : decide (0 < S) = false := by
            rw [decide_eq_true he] at hGk; simpa using hGk.symm
          have hS2 : ¬ 0 < S := of_decide_eq_false hS
          have he2 : (t.getD k E0).2.2 = q := he
          rw [he2] at c1
          clear hGk he he2 hS
          go_wp2
          exact ⟨⟨k + 1, by omega, by go_num, by rw [unhide E3], by rw [unhide E1]; exact D1, by rw [unhide E2]; exact D2, D3⟩, by simp [intOf]; omega⟩
        · have he2 : ((t.getD k E0).2.2 == q) = false := beq_eq_false_iff_ne.2 he
          clear hGk he
          generalize (t.getD k E0).2.2 = x at *
          go_wp2
          exact ⟨⟨k + 1, by omega, by go_num, by rw [unhide E3], by rw [unhide E1]; exact D1, by rw [unhide E2]; exact D2, D3⟩, by simp [intOf]; omega⟩
      | true =>
        rw [hg] at hGk
        obtain ⟨he, hS⟩ := (Bool.and_eq_true _ _ ▸ hGk.symm)
        have hS2 := of_decide_eq_true hS
        have he2 : (t.getD k E0).2.2 = q := of_decide_eq_true he
        rw [he2] at c1
        obtain ⟨n0, n1⟩ := unhide HN k hlt
        have hpb := partJ_bd n0 n1 q0 q1
        have E3 : Hid (sumG G (partJ (netF l) q) (k + 1) = sumG G (partJ (netF l) q) k + partJ (netF l) q k) := hide (by rw [sumG, hg]; simp)
        have hsk1 := unhide HSB (k + 1) (by omega)
        rw [unhide E3] at hsk1
        have E1 : Hid (∀ W x, x = partJ (netF l) q k → ROwn W b (rowsF l (tax1 (netF l) (oldF l) G q k)) → ROwn (W.setCell ⟨b, k * 3 + 2, none⟩ (.int .i64 x)) b (rowsF l (tax1 (netF l) (oldF l) G q (k + 1)))) := hide (fun W x hx hW => by
          subst hx
          have := rown_tax hW hkl (partJ (netF l) q k)
          rw [rowsF_set l _ (by omega)] at this
          rwa [show (fun j => if j = k then partJ (netF l) q k else tax1 (netF l) (oldF l) G q k j) = tax1 (netF l) (oldF l) G q (k + 1) from funext fun j => (tax1_yes hg j).symm] at this)
        have E2 : Hid (∀ W x, x = restJ (netF l) q k + 1 → Cells W w.heap.size 0 (restL t.length (rest1 (netF l) G q k)) → Cells (W.setCell ⟨w.heap.size, k, none⟩ (.int .i64 x)) w.heap.size 0 (restL t.length (rest1 (netF l) G q (k + 1)))) := hide (fun W x hx hW => by
          subst hx
          have := hW.set (k := k) (by rw [restL_len]; exact hlt) (restJ (netF l) q k + 1)
          rw [restL_set _ hlt, Nat.zero_add] at this
          rwa [show (fun j => if j = k then restJ (netF l) q k + 1 else rest1 (netF l) G q k j) = rest1 (netF l) G q (k + 1) from funext fun j => (rest1_yes hg j).symm] at this)
        have HPJ : Hid (partJ (netF l) q k = netF l k / 10000 * q + netF l k % 10000 * q / 10000) := hide rfl
        have HRJ : Hid (restJ (netF l) q k = netF l k % 10000 * q % 10000) := hide rfl
        rw [unhide HPJ] at E3 hsk1 hpb
        rw [unhide HRJ] at hpb
        clear hg hc hkl he hS hGk he2
        generalize sumG G (partJ (netF l) q) k = sg at *
        generalize tax1 (netF l) (oldF l) G q k k = ot at *
        generalize (restL t.length (rest1 (netF l) G q k)).getD k 0 = orr at *
        have hnx : (l.getD k R0).2.1 = netF l k := rfl
        generalize netF l k = x at *
        obtain ⟨⟨p1, p2⟩, ⟨p3, p4⟩, ⟨p5, p6⟩, ⟨p7, p8⟩, ⟨p9, p10⟩, ⟨p11, p12⟩, p13, p14⟩ := hpb
        clear hnx
        go_wp2
        exact ⟨⟨k + 1, by omega, by go_num, by rw [unhide E3]; go_num, hide (rown_off (unhide E1 wr _ (unhide HPJ).symm (unhide D1)) _ hbne), hide (unhide E2 _ _ (by rw [unhide HRJ]) (cells_off (unhide D2) _ (fun h => hbne h.symm))), hide (((unhide D3).setCell (p := ⟨b, k * 3 + 2, none⟩) hb _).setCell (p := ⟨w.heap.size, k, none⟩) (by simp; omega) _)⟩, by simp [intOf]; omega⟩
    · obtain rfl : k = t.length := by omega
      have hll := unhide HL
      have F1 : Hid (ROwn wr b (rowsF l (tax2 (netF l) (oldF l) G (fun _ => false) q))) := hide (by
        have := unhide D1
        rwa [rowsF_congr l (fun j hj => tax1_end (netF l) (oldF l) G q (show j < t.length by omega))] at this)
      have F2 : Hid (Cells wr w.heap.size 0 (restL t.length (rest2 (netF l) G (fun _ => false) q))) := hide (by
        have := unhide D2
        rwa [restL_congr (fun j hj => rest1_end (netF l) G q hj)] at this)
      have HEND : Hid (∀ W p, Pk G (restJ (netF l) q) t.length p → (((tax - sumG G (partJ (netF l) q) t.length) - ((List.range t.length).countP p : Int) ≤ 0 ∧ ((List.range t.length).countP p = 0 ∨ ((List.range t.length).countP p : Int) ≤ tax - sumG G (partJ (netF l) q) t.length)) ∨ (All G p t.length ∧ ((List.range t.length).countP p : Int) ≤ tax - sumG G (partJ (netF l) q) t.length)) → ROwn W b (rowsF l (tax2 (netF l) (oldF l) G p q)) → ROwn W b (rowsF l (spreadF (netF l) (rateF t) (oldF l) t.length q S tax))) := hide (fun W p hP h hW => by
        have hG := unhide HG
        subst hG
        rwa [rowsF_congr l (fun j hj => spread_end hP h (show j < t.length by omega))] at hW)
      have HRB : Hid (∀ j, j < t.length → 0 ≤ restJ (netF l) q j ∧ restJ (netF l) q j < 10000) := hide (fun j hj => by
        obtain ⟨h0, h1⟩ := unhide HN j hj
        exact (partJ_bd h0 h1 q0 q1).2.2.2.2.2.2)
      have HPB : Hid (∀ j, j < t.length → 0 ≤ partJ (netF l) q j ∧ partJ (netF l) q j ≤ 500000000005000) := hide (fun j hj => by
        obtain ⟨h0, h1⟩ := unhide HN j hj
        exact (partJ_bd h0 h1 q0 q1).2.2.2.2.2.1)
      have hL1 : -3000000000030000 ≤ tax - sumG G (partJ (netF l) q) t.length := by omega
      have hL2 : tax - sumG G (partJ (netF l) q) t.length ≤ 1000000000000000 := by omega
      have hbne : w.heap.size ≠ b := by omega
      have hw0 : w0.heap.size ≤ w.heap.size := by omega
      generalize tax - sumG G (partJ (netF l) q) t.length = L at *
      clear D1 D2 HN HG HSB HT hsk hlt hk hgw
      go_wp2
      go_loopw [11] (fun lv wr2 => ∃ (p : Nat → Bool) (cp : Nat), lv = .int .i64 (L - (cp : Int)) ∧ cp ≤ 6 ∧ Hid ((List.range t.length).countP p = cp) ∧ Hid (Pk G (restJ (netF l) q) t.length p) ∧ Hid (cp = 0 ∨ (cp : Int) ≤ L) ∧ Hid (ROwn wr2 b (rowsF l (tax2 (netF l) (oldF l) G p q))) ∧ Hid (Cells wr2 w.heap.size 0 (restL t.length (rest2 (netF l) G p q))) ∧ Hid (Below w0.heap.size w0 wr2)) (fun lv _ => (intOf lv).toNat)
      case atStart => exact ⟨fun _ => false, 0, by simp, by omega, hide (by simp), hide (Pk.none _ _ _), hide (.inl rfl), F1, F2, D3⟩
      case round =>
        obtain ⟨p, cp, rfl, hcp, HC, hP, hC, R1, R2, R3⟩ := hrel
        clear F1 F2 D3
        by_cases hpos : 0 < L - (cp : Int)
        · go_wp2
          go_loopw [16, 17] (fun bv s wr3 => ∃ k : Nat, k ≤ t.length ∧ s = .int .i64 k ∧ ((bv = .int .i64 (-1) ∧ Hid (All G p k)) ∨ ∃ bb : Nat, bv = .int .i64 bb ∧ Hid (Best G (restJ (netF l) q) p k bb)) ∧ Hid (Below wr.heap.size wr wr3)) (fun _ s _ => t.length - (intOf s).toNat)
          case atStart => exact ⟨0, Nat.zero_le _, rfl, .inl ⟨rfl, hide (fun i hi => by omega)⟩, hide (Below.refl _ _)⟩
          case round =>
            obtain ⟨k, hk, rfl, hbest, hB3⟩ := hrel
            have C2 := cells_below (unhide R2) (unhide hB3)
            by_cases hlt : k < t.length
            · obtain ⟨s0, _⟩ := C2.2 k (by rw [restL_len]; exact hlt)
              rw [restL_get _ hlt, Nat.zero_add] at s0
              have k1 : (0 : Int) ≤ (k : Int) := by omega
              have k2 : (k : Int) < (t.length : Int) := by omega
              rcases hbest with ⟨rfl, hA⟩ | ⟨bb, rfl, hBb⟩
              · clear C2
                cases hgk : (G k && !p k) with
                | false =>
                  have e : rest2 (netF l) G p q k = 0 := by unfold rest2; rw [hgk]; rfl
                  rw [e] at s0
                  have hA' := hide (All.more (unhide hA) hgk)
                  clear e hgk hA
                  go_wp2
                  go_quiet (fail)
                  go_wp2
                  exact ⟨⟨k + 1, by omega, by go_num, .inl ⟨rfl, hA'⟩, hide (below_drewN' (unhide hB3) _)⟩, by simp [intOf]; omega⟩
                | true =>
                  have e : rest2 (netF l) G p q k = restJ (netF l) q k + 1 := by unfold rest2; rw [hgk]; rfl
                  rw [e] at s0
                  obtain ⟨u0, u1⟩ := unhide HRB k hlt
                  have hF := hide (Best.first (r := restJ (netF l) q) (unhide hA) hgk)
                  clear e hgk hA
                  generalize restJ (netF l) q k = rk at *
                  have u2 : decide ((0 : Int) < rk + 1) = true := decide_eq_true (by omega)
                  go_wp2
                  go_quiet (fail)
                  go_wp2
                  exact ⟨⟨k + 1, by omega, by go_num, .inr ⟨k, rfl, hF⟩, hide (below_drewN' (unhide hB3) _)⟩, by simp [intOf]; omega⟩
              · obtain ⟨hbk, hbg, hbp, _⟩ := unhide hBb
                obtain ⟨s1, _⟩ := C2.2 bb (by rw [restL_len]; omega)
                rw [restL_get _ (show bb < t.length by omega), Nat.zero_add] at s1
                have e1 : rest2 (netF l) G p q bb = restJ (netF l) q bb + 1 := by unfold rest2; rw [hbg, hbp]; rfl
                rw [e1] at s1
                obtain ⟨v0, v1⟩ := unhide HRB bb (by omega)
                have b1 : (0 : Int) ≤ (bb : Int) := by omega
                have b2 : (bb : Int) < (t.length : Int) := by omega
                clear C2 hbg hbp e1
                cases hgk : (G k && !p k) with
                | false =>
                  have e : rest2 (netF l) G p q k = 0 := by unfold rest2; rw [hgk]; rfl
                  rw [e] at s0
                  have hA' := hide (Best.more (unhide hBb) (fun h => by rw [hgk] at h; cases h))
                  clear e hgk hBb
                  generalize restJ (netF l) q bb = rb at *
                  go_wp2
                  go_quiet (fail)
                  go_wp2
                  exact ⟨⟨k + 1, by omega, by go_num, .inr ⟨bb, rfl, hA'⟩, hide (below_drewN' (unhide hB3) _)⟩, by simp [intOf]; omega⟩
                | true =>
                  have e : rest2 (netF l) G p q k = restJ (netF l) q k + 1 := by unfold rest2; rw [hgk]; rfl
                  rw [e] at s0
                  obtain ⟨u0, u1⟩ := unhide HRB k hlt
                  have bn : ¬ (bb : Int) < 0 := by omega
                  by_cases hr : restJ (netF l) q bb < restJ (netF l) q k
                  · have hF := hide (Best.turn (unhide hBb) hgk hr)
                    have hr2 : restJ (netF l) q bb + 1 < restJ (netF l) q k + 1 := by omega
                    clear e hgk hBb hr
                    generalize restJ (netF l) q bb = rb at *
                    generalize restJ (netF l) q k = rk at *
                    have u2 : decide ((0 : Int) < rk + 1) = true := decide_eq_true (by omega)
                    have u3 : decide ((bb : Int) < 0) = false := decide_eq_false (by omega)
                    have u4 : decide (rb < rk) = true := decide_eq_true (by omega)
                    have u5 : decide (rb + 1 < rk + 1) = true := decide_eq_true (by omega)
                    clear bn hr2
                    go_wp2
                    go_quiet (fail)
                    go_wp2
                    exact ⟨⟨k + 1, by omega, by go_num, .inr ⟨k, rfl, hF⟩, hide (below_drewN' (unhide hB3) _)⟩, by simp [intOf]; omega⟩
                  · have hF := hide (Best.more (unhide hBb) (fun _ => by omega))
                    have hr2 : ¬ restJ (netF l) q bb + 1 < restJ (netF l) q k + 1 := by omega
                    clear e hgk hBb hr
                    generalize restJ (netF l) q bb = rb at *
                    generalize restJ (netF l) q k = rk at *
                    have u2 : decide ((0 : Int) < rk + 1) = true := decide_eq_true (by omega)
                    have u3 : decide ((bb : Int) < 0) = false := decide_eq_false (by omega)
                    have u4 : decide (rb < rk) = false := decide_eq_false (by omega)
                    have u5 : decide (rb + 1 < rk + 1) = false := decide_eq_false (by omega)
                    clear bn hr2
                    go_wp2
                    go_quiet (fail)
                    go_wp2
                    exact ⟨⟨k + 1, by omega, by go_num, .inr ⟨bb, rfl, hF⟩, hide (below_drewN' (unhide hB3) _)⟩, by simp [intOf]; omega⟩
            · obtain rfl : k = t.length := by omega
              have S1 := hide ((unhide R1).kept (unhide hB3))
              have S3 := hide (below_trans (unhide R3) (unhide hB3))
              have hCP := unhide HC
              rcases hbest with ⟨rfl, hA⟩ | ⟨bb, rfl, hBb⟩
              · have HR := hide (unhide HEND _ p (unhide hP) (.inr ⟨unhide hA, by rw [hCP]; omega⟩) (unhide S1))
                clear C2 hCP hA
                go_wp2
                go_ret
                exact ⟨rfl, unhide HR, unhide S3⟩
              · obtain ⟨hbk, hbg, hbp, _⟩ := unhide hBb
                have b1 : (0 : Int) ≤ (bb : Int) := by omega
                have b2 : (bb : Int) < (t.length : Int) := by omega
                have bn : ¬ (bb : Int) < 0 := by omega
                have hbl : bb < (rowsF l (tax2 (netF l) (oldF l) G p q)).length := by rw [rowsF_len]; omega
                obtain ⟨_, _, r2⟩ := (unhide S1).1.2 bb hbl
                have f2 := (unhide S1).2 (bb * 3 + 2)
                rw [rowsF_get _ _ (by omega), Nat.zero_add] at r2
                simp only at r2
                obtain ⟨s0, f0⟩ := C2.2 bb (by rw [restL_len]; omega)
                rw [Nat.zero_add] at s0 f0
                have e1 : tax2 (netF l) (oldF l) G p q bb = partJ (netF l) q bb := by unfold tax2; rw [hbg, hbp]; simp
                obtain ⟨v0, v1⟩ := unhide HPB bb (by omega)
                have HC2 : Hid ((List.range t.length).countP (fun i => p i || decide (i = bb)) = cp + 1) := hide (by rw [count_add t.length hbp, if_pos hbk, hCP])
                have hP2 := hide ((unhide hP).next (unhide hBb))
                have E1 : Hid (∀ W x, x = partJ (netF l) q bb + 1 → ROwn W b (rowsF l (tax2 (netF l) (oldF l) G p q)) → ROwn (W.setCell ⟨b, bb * 3 + 2, none⟩ (.int .i64 x)) b (rowsF l (tax2 (netF l) (oldF l) G (fun i => p i || decide (i = bb)) q))) := hide (fun W x hx hW => by
                  subst hx
                  have := rown_tax hW hbl (partJ (netF l) q bb + 1)
                  rw [rowsF_set l _ (by omega)] at this
                  rwa [show (fun j => if j = bb then partJ (netF l) q bb + 1 else tax2 (netF l) (oldF l) G p q j) = tax2 (netF l) (oldF l) G (fun i => p i || decide (i = bb)) q from funext fun j => by rw [tax2_next hbg hbp, e1]] at this)
                have E2 : Hid (∀ W, Cells W w.heap.size 0 (restL t.length (rest2 (netF l) G p q)) → Cells (W.setCell ⟨w.heap.size, bb, none⟩ (.int .i64 0)) w.heap.size 0 (restL t.length (rest2 (netF l) G (fun i => p i || decide (i = bb)) q))) := hide (fun W hW => by
                  have := hW.set (k := bb) (by rw [restL_len]; omega) 0
                  rw [restL_set _ (show bb < t.length by omega), Nat.zero_add] at this
                  rwa [show (fun j => if j = bb then 0 else rest2 (netF l) G p q j) = rest2 (netF l) G (fun i => p i || decide (i = bb)) q from funext fun j => (rest2_next j).symm] at this)
                have HC2' := hide C2
                have hcl : cp + 1 ≤ 6 := by
                  have h1 := List.countP_le_length (p := fun i => p i || decide (i = bb)) (l := List.range t.length)
                  rw [unhide HC2, List.length_range] at h1
                  omega
                rw [e1] at r2
                clear C2 hCP hBb hbg hbp e1 hbl
                generalize (restL t.length (rest2 (netF l) G p q)).getD bb 0 = orr at *
                have HV : Hid (partJ (netF l) q bb = partJ (netF l) q bb) := hide rfl
                generalize hv : partJ (netF l) q bb = pv at *
                clear hv
                go_wp2
                exact ⟨⟨fun i => p i || decide (i = bb), cp + 1, by go_num, hcl, HC2, hP2, hide (.inr (by omega)), hide (rown_off (unhide E1 _ _ rfl (unhide S1)) _ hbne), hide (unhide E2 _ (cells_off (unhide HC2') _ (fun h => hbne h.symm))), hide (((unhide S3).setCell (p := ⟨b, bb * 3 + 2, none⟩) hb _).setCell (p := ⟨w.heap.size, bb, none⟩) hw0 _)⟩, by simp [intOf]; omega⟩
        · have hCP := unhide HC
          have HR := hide (unhide HEND _ p (unhide hP) (.inl ⟨by rw [hCP]; omega, by rw [hCP]; exact unhide hC⟩) (unhide R1))
          clear hCP
          go_wp2
          go_ret
          exact ⟨rfl, unhide HR, unhide R3⟩
end Go.Proofs.YtnchgeiinkaefaaGreatDoor.Tax
end

section
/-
  spec.l4Taxes: the taxes of all rates.
-/
namespace Go.Proofs.YtnchgeiinkaefaaGreatDoor.Tax
set_option linter.unusedVariables false
open Go.RowKit
open Evs (E E0 ER EC hide unhide below_trans below_drewN')
open BRow (R R0 RC ROwn)
open Ints (Cells)
open Coin (partV partB okB partS)

/-- what all rows of a rate come to -/
def sumQ (net rate : Nat → Int) (n : Nat) (q : Int) : Int := sumG (fun j => decide (rate j = q)) net n
/-- what row j owes -/
def owed (net rate : Nat → Int) (n j : Nat) : Int := spreadF net rate (fun _ => 0) n (rate j) (sumQ net rate n (rate j)) (partV (sumQ net rate n (rate j)) (rate j) 10000) j
/-- the tax of the rate of row j is told -/
def toldB (net rate : Nat → Int) (n j : Nat) : Bool := partB (sumQ net rate n (rate j)) (rate j) 10000
def allTold (net rate : Nat → Int) (n : Nat) : Bool := (List.range n).all fun j => toldB net rate n j
theorem allTold_no {net rate : Nat → Int} {n j : Nat} (hj : j < n) (h : toldB net rate n j = false) : allTold net rate n = false := by
  unfold allTold; rw [List.all_eq_false]; exact ⟨j, by simpa using hj, by simp [h]⟩
theorem allTold_yes {net rate : Nat → Int} {n : Nat} (h : ∀ j, j < n → toldB net rate n j = true) : allTold net rate n = true := by
  unfold allTold; rw [List.all_eq_true]; intro j hj; exact h j (by simpa using hj)

theorem partV_nonneg {a n : Int} (h : 0 ≤ a) (hn : 0 ≤ n) : 0 ≤ partV a n 10000 := by
  unfold partV
  split
  · rw [if_neg (by omega)]
    have e : Coin.sz a = a := by unfold Coin.sz; split <;> omega
    rw [e]
    have h1 := (Coin.rndE_bd (a / 10000 * n + a % 10000 * n / 10000) (a % 10000 * n % 10000) 10000).1
    have h2 : 0 ≤ a / 10000 * n := Int.mul_nonneg (by omega) hn
    have h3 : 0 ≤ a % 10000 * n := Int.mul_nonneg (by omega) hn
    omega
  · omega
theorem sumQ_bd {net rate : Nat → Int} {n : Nat} (h6 : n ≤ 6) (hN : ∀ j, j < n → 0 ≤ net j ∧ net j ≤ 1000000000000000) (q : Int) : ∀ k, k ≤ n → 0 ≤ sumG (fun j => decide (rate j = q)) net k ∧ sumG (fun j => decide (rate j = q)) net k ≤ 6000000000000000 := fun k hk => by
  have := sumG_bd (g := fun j => decide (rate j = q)) (f := net) (m := 1000000000000000) (by omega) k (fun i hi => hN i (by omega))
  have h2 : (k : Int) * 1000000000000000 ≤ 6 * 1000000000000000 := Int.mul_le_mul_of_nonneg_right (by omega) (by omega)
  omega

/-- the rate of row j is one of the first i lines' -/
def seen (rate : Nat → Int) (i j : Nat) : Bool := (List.range i).any fun m => decide (rate m = rate j)
theorem seen_next (rate : Nat → Int) (i j : Nat) : seen rate (i + 1) j = (seen rate i j || decide (rate i = rate j)) := by
  unfold seen; rw [List.range_succ, List.any_append]; simp
theorem seen_iff {rate : Nat → Int} {i j : Nat} : seen rate i j = true ↔ ∃ m, m < i ∧ rate m = rate j := by
  unfold seen; rw [List.any_eq_true]
  constructor
  · rintro ⟨m, hm, h⟩; exact ⟨m, by simpa using hm, of_decide_eq_true h⟩
  · rintro ⟨m, hm, h⟩; exact ⟨m, by simpa using hm, decide_eq_true h⟩
/-- the taxes behind the first i lines -/
def taxI (net rate : Nat → Int) (n i j : Nat) : Int := if seen rate i j then owed net rate n j else 0
theorem taxI_skip {net rate : Nat → Int} {n i f : Nat} (hf : f < i) (h : rate f = rate i) (j : Nat) : taxI net rate n (i + 1) j = taxI net rate n i j := by
  unfold taxI
  rw [seen_next]
  by_cases e : rate i = rate j
  · have : seen rate i j = true := seen_iff.2 ⟨f, hf, h.trans e⟩
    rw [this]; simp
  · rw [decide_eq_false e, Bool.or_false]
theorem spread_old {net rate o1 o2 : Nat → Int} {n : Nat} {q S tax : Int} {j : Nat} (h : o1 j = o2 j) : spreadF net rate o1 n q S tax j = spreadF net rate o2 n q S tax j := by
  unfold spreadF; rw [h]
theorem taxI_step {net rate : Nat → Int} {n i : Nat} (h : ∀ m, m < i → rate m ≠ rate i) (j : Nat) : spreadF net rate (taxI net rate n i) n (rate i) (sumQ net rate n (rate i)) (partV (sumQ net rate n (rate i)) (rate i) 10000) j = taxI net rate n (i + 1) j := by
  by_cases e : rate i = rate j
  · have h1 : seen rate i j = false := by
      cases hs : seen rate i j
      · rfl
      · obtain ⟨m, hm, h2⟩ := seen_iff.1 hs
        exact absurd (h2.trans e.symm) (h m hm)
    have h0 : taxI net rate n i j = (fun _ => (0 : Int)) j := by unfold taxI; rw [h1]; rfl
    rw [spread_old (o2 := fun _ => 0) h0]
    unfold taxI
    rw [seen_next, decide_eq_true e, Bool.or_true, if_pos rfl, owed, e]
  · have hg : grp rate (rate i) (sumQ net rate n (rate i)) j = false := by unfold grp; rw [decide_eq_false (fun h => e h.symm)]; rfl
    unfold spreadF
    rw [hg]
    unfold taxI
    rw [seen_next, decide_eq_false e, Bool.or_false]; rfl
theorem netF_rows (l : List R) (f : Nat → Int) : netF (rowsF l f) = netF l := by
  funext j
  by_cases h : j < l.length
  · unfold netF; rw [rowsF_get l f h]
  · unfold netF; simp [rowsF, List.getD, h]
theorem oldF_rows (l : List R) (f : Nat → Int) {j : Nat} (h : j < l.length) : oldF (rowsF l f) j = f j := by
  unfold oldF; rw [rowsF_get l f h]
theorem taxI_end (net rate : Nat → Int) {n j : Nat} (h : j < n) : taxI net rate n n j = owed net rate n j := by
  unfold taxI; rw [if_pos (seen_iff.2 ⟨j, h, rfl⟩)]

set_option maxRecDepth 20000 in
set_option maxHeartbeats 4000000 in
theorem taxesS (w0 : World) (tv : Value) (t : List E) (b c n : Nat) (l : List R) (w : World) (hT : ER w0 tv t) (hB : Below w0.heap.size w0 w) (hR : ROwn w b l) (hb : w0.heap.size ≤ b)
    (hn : l.length = n) (ht : t.length = n) (h6 : n ≤ 6) (hN : ∀ j, j < n → 0 ≤ netF l j ∧ netF l j ≤ 1000000000000000) (hQ : ∀ j, j < n → 0 ≤ rateF t j ∧ rateF t j ≤ 5000) (hO : ∀ j, j < n → oldF l j = 0) :
    Calls Tryz.prog 24 #[tv, .slice (some ⟨b, 0, none⟩) n c] w fun e w' => Below w0.heap.size w0 w' ∧ ((allTold (netF l) (rateF t) n = true ∧ e = .returned (.tuple #[.slice (some ⟨b, 0, none⟩) n c, .bool true]) ∧ ROwn w' b (rowsF l (owed (netF l) (rateF t) n))) ∨ (allTold (netF l) (rateF t) n = false ∧ e = .returned (.tuple #[.slice none 0 0, .bool false]))) := by
  obtain ⟨ta, tc, rfl⟩ := hT.slice
  subst ht
  have HT := hide hT
  have HN := hide hN
  have HL := hide hn
  have HQ := hide hQ
  have HO := hide hO
  have HR := hide hR
  have HB := hide hB
  have hw0 : w0.heap.size ≤ w.heap.size := hB.size
  have HSB := hide (fun q => sumQ_bd (rate := rateF t) h6 hN q)
  clear hT hN hn hR hB hQ hO
  go_enter Tryz.func24, Tryz.ntmps24
  go_wp2_with (fail)
  go_loopw [1, 6] (fun rv s wr => ∃ i : Nat, i ≤ t.length ∧ s = .int .i64 i ∧ rv = .slice (some ⟨b, 0, none⟩) t.length c ∧ Hid (ROwn wr b (rowsF l (taxI (netF l) (rateF t) t.length i))) ∧ Hid (∀ j, j < i → toldB (netF l) (rateF t) t.length j = true) ∧ Hid (Below w0.heap.size w0 wr)) (fun _ s _ => t.length - (intOf s).toNat)
  case atStart =>
    refine ⟨0, Nat.zero_le _, rfl, rfl, ?_, hide (fun j hj => by omega), HB⟩
    have e : rowsF l (taxI (netF l) (rateF t) t.length 0) = l := by
      have h1 : rowsF l (taxI (netF l) (rateF t) t.length 0) = rowsF l (oldF l) := rowsF_congr l (fun j hj => by
        rw [unhide HO j (by have := unhide HL; omega)]; simp [taxI, seen])
      rw [h1]; exact rowsF_old l
    rw [e]; exact HR
  case round =>
    obtain ⟨i, hi, rfl, rfl, D1, D2, D3⟩ := hrel
    clear HR HB
    have hll := unhide HL
    by_cases hlt : i < t.length
    · obtain ⟨b2, o2, cap2, hcf, hc⟩ : ∃ b2 o2 cap2, Value.slice ta t.length tc = .slice (some ⟨b2, o2, none⟩) t.length cap2 ∧ EC w0 b2 o2 t := by
        rcases unhide HT with ⟨h, _⟩ | h
        · rw [h] at hlt; simp at hlt
        · exact h
      simp only [Value.slice.injEq, true_and] at hcf
      obtain ⟨rfl, rfl⟩ := hcf
      have HC := hide hc
      have i1 : (0 : Int) ≤ (i : Int) := by omega
      have i2 : (i : Int) < (t.length : Int) := by omega
      have hER : ER wr (Value.slice (some ⟨b2, o2, none⟩) t.length tc) t := (unhide HT).kept (unhide D3)
      have HER := hide hER
      clear hER hc
      go_wp2_with (fail)
      refine (firstS _ t i wr (unhide HER) hlt h6).mono ?_
      rintro e w1 ⟨f, rfl, hf, hb1⟩
      have HF := hide hf
      have G1 := hide ((unhide D1).kept hb1)
      have G3 := hide (below_trans (unhide D3) hb1)
      clear hf hb1 D1 D3 HER
      by_cases hfi : f = i
      · subst hfi
        have HFI : Hid (∀ m, m < f → rateF t m ≠ rateF t f) := hide (unhide HF).2.2
        have hff : ((f : Int) != (f : Int)) = false := by simp
        clear HF
        go_wp2_with (fail)
        go_loopw [7, 8] (fun sv s wr2 => ∃ j : Nat, j ≤ t.length ∧ s = .int .i64 j ∧ sv = .int .i64 (sumG (fun j => decide (rateF t j = rateF t f)) (netF l) j) ∧ Hid (ROwn wr2 b (rowsF l (taxI (netF l) (rateF t) t.length f))) ∧ Hid (Below w0.heap.size w0 wr2)) (fun _ s _ => t.length - (intOf s).toNat)
        case atStart => exact ⟨0, Nat.zero_le _, rfl, by simp [sumG], G1, G3⟩
        case round =>
          obtain ⟨j, hj, rfl, rfl, K1, K3⟩ := hrel
          clear G1 G3
          have hsj := unhide HSB (rateF t f) j hj
          have hcc := (unhide HC).kept (unhide K3)
          have c1 := (hcc.2 f hlt).2.2
          by_cases hjl : j < t.length
          · have c2 := (hcc.2 j hjl).2.2
            obtain ⟨_, r1, _⟩ := (unhide K1).1.2 j (by rw [rowsF_len]; omega)
            rw [rowsF_get _ _ (by omega), Nat.zero_add] at r1
            simp only at r1
            have j1 : (0 : Int) ≤ (j : Int) := by omega
            have j2 : (j : Int) < (t.length : Int) := by omega
            obtain ⟨n0, n1⟩ := unhide HN j hjl
            clear hcc
            by_cases he : rateF t j = rateF t f
            · have E3 : Hid (sumG (fun j => decide (rateF t j = rateF t f)) (netF l) (j + 1) = sumG (fun j => decide (rateF t j = rateF t f)) (netF l) j + netF l j) := hide (by rw [sumG, decide_eq_true he]; simp)
              have he2 : (t.getD j E0).2.2 = (t.getD f E0).2.2 := he
              rw [he2] at c2
              clear he he2
              have hrr : rateF t f = (t.getD f E0).2.2 := rfl
              generalize sumG (fun j => decide (rateF t j = rateF t f)) (netF l) j = sg at *
              have hnx : (l.getD j R0).2.1 = netF l j := rfl
              generalize netF l j = x at *
              clear hnx hrr
              generalize (t.getD f E0).2.2 = q at *
              go_wp2
              go_quiet (fail)
              go_wp2
              exact ⟨⟨j + 1, by omega, by go_num, by rw [unhide E3], hide ((unhide K1).kept (below_drewN' (Below.refl _ _) _)), hide (below_drewN' (unhide K3) _)⟩, by simp [intOf]; omega⟩
            · have E3 : Hid (sumG (fun j => decide (rateF t j = rateF t f)) (netF l) (j + 1) = sumG (fun j => decide (rateF t j = rateF t f)) (netF l) j) := hide (by rw [sumG, decide_eq_false he]; simp)
              have he2 : ((t.getD j E0).2.2 == (t.getD f E0).2.2) = false := beq_eq_false_iff_ne.2 he
              clear he r1 n0 n1
              generalize sumG (fun j => decide (rateF t j = rateF t f)) (netF l) j = sg at *
              generalize (t.getD f E0).2.2 = q at *
              generalize (t.getD j E0).2.2 = y at *
              go_wp2
              go_quiet (fail)
              go_wp2
              exact ⟨⟨j + 1, by omega, by go_num, by rw [unhide E3], hide ((unhide K1).kept (below_drewN' (Below.refl _ _) _)), hide (below_drewN' (unhide K3) _)⟩, by simp [intOf]; omega⟩
          · obtain rfl : j = t.length := by omega
            have HSQ : Hid (sumG (fun j => decide (rateF t j = rateF t f)) (netF l) t.length = sumQ (netF l) (rateF t) t.length (rateF t f)) := hide rfl
            rw [unhide HSQ] at hsj ⊢
            clear HSQ hcc
            obtain ⟨q0, q1⟩ := unhide HQ f hlt
            have HTB : Hid (toldB (netF l) (rateF t) t.length f = partB (sumQ (netF l) (rateF t) t.length (rateF t f)) (rateF t f) 10000) := hide rfl
            have HST := hide (taxI_step (net := netF l) (n := t.length) (unhide HFI))
            have hpv := partV_nonneg (a := sumQ (netF l) (rateF t) t.length (rateF t f)) hsj.1 q0
            have hpv2 := (Coin.part_bd (sumQ (netF l) (rateF t) t.length (rateF t f)) (rateF t f) 10000).2
            have HQF : Hid (rateF t f = (t.getD f E0).2.2) := hide rfl
            rw [← unhide HQF] at c1
            generalize hS : sumQ (netF l) (rateF t) t.length (rateF t f) = S at *
            clear hS
            generalize hqq : rateF t f = q at *
            clear hqq HQF
            go_wp2_with (fail)
            refine (partS S q 10000 _).mono ?_
            rintro e w3 ⟨rfl, nk, hw3⟩
            have M1 := hide ((unhide K1).kept (hw3 ▸ below_drewN' (Below.refl _ _) nk))
            have M3 := hide (hw3 ▸ below_drewN' (unhide K3) nk)
            have c1' : w3.cell? ⟨b2, o2 + f * 3 + 2, none⟩ = some (.int .i64 q) := by rw [hw3]; exact c1
            clear K1 K3 c1 hw3
            cases htb : partB S q 10000 with
            | false =>
              have HA : Hid (allTold (netF l) (rateF t) t.length = false) := hide (allTold_no hlt ((unhide HTB).trans htb))
              clear htb HTB
              go_wp2_with (fail)
              go_ret2
              exact ⟨unhide M3, .inr ⟨unhide HA, rfl⟩⟩
            | true =>
              have D2' : Hid (∀ j, j < f + 1 → toldB (netF l) (rateF t) t.length j = true) := hide (fun j hj => by
                by_cases e : j = f
                · subst e; exact (unhide HTB).trans htb
                · exact unhide D2 j (by omega))
              clear htb HTB D2
              generalize partV S q 10000 = pv at *
              go_wp2_with (fail)
              refine (spreadS w0 _ t b c t.length (rowsF l (taxI (netF l) (rateF t) t.length f)) q S pv _ (unhide HT) (unhide M3) (unhide M1) hb (by rw [rowsF_len]; exact hll) rfl h6 (fun j hj => by rw [netF_rows]; exact unhide HN j hj) q0 q1 ⟨hpv, hpv2⟩).mono ?_
              rintro e w5 ⟨rfl, hR5, hB5⟩
              have N1 : Hid (ROwn w5 b (rowsF l (taxI (netF l) (rateF t) t.length (f + 1)))) := hide (by
                rw [rowsF_rows, netF_rows] at hR5
                rwa [rowsF_congr l (fun j hj => (spread_old (oldF_rows l _ hj)).trans (unhide HST j))] at hR5)
              have N3 := hide hB5
              clear hR5 hB5 M1 M3 c1'
              go_wp2_with (fail)
              exact ⟨⟨f + 1, by omega, by go_num, rfl, N1, D2', N3⟩, by simp [intOf]; omega⟩
      · have hfl : f < i := by have := (unhide HF).1; omega
        have hfe := (unhide HF).2.1
        have E1 : Hid (rowsF l (taxI (netF l) (rateF t) t.length (i + 1)) = rowsF l (taxI (netF l) (rateF t) t.length i)) := hide (rowsF_congr l (fun j _ => taxI_skip hfl hfe j))
        have D2' : Hid (∀ j, j < i + 1 → toldB (netF l) (rateF t) t.length j = true) := hide (fun j hj => by
          by_cases e : j = i
          · subst e
            have := unhide D2 f hfl
            unfold toldB at this ⊢
            rwa [hfe] at this
          · exact unhide D2 j (by omega))
        have hff : ((f : Int) != (i : Int)) = true := by simp; omega
        clear HF hfe D2 hfi
        go_wp2_with (fail)
        exact ⟨⟨i + 1, by omega, by go_num, rfl, by rw [unhide E1]; exact G1, D2', G3⟩, by simp [intOf]; omega⟩
    · obtain rfl : i = t.length := by omega
      have HA := hide (allTold_yes (unhide D2))
      have HRR : Hid (ROwn wr b (rowsF l (owed (netF l) (rateF t) t.length))) := hide (by
        have := unhide D1
        rwa [rowsF_congr l (fun j hj => taxI_end (netF l) (rateF t) (show j < t.length by omega))] at this)
      clear D1 D2
      go_wp2_with (fail)
      go_ret2
      exact ⟨unhide D3, .inl ⟨unhide HA, rfl, unhide HRR⟩⟩
end Go.Proofs.YtnchgeiinkaefaaGreatDoor.Tax
end

section
/-
  The laws' own helpers on slices of events: markText, markUseEventS, heldUseEventS.
-/
namespace Go.Proofs.YtnchgeiinkaefaaGreatDoor.Evs
set_option linter.unusedVariables false
open Go.RowKit RegIn

/-- a string of one byte -/
theorem conv1 (w : World) (c : Int) (h0 : 0 ≤ c) (h1 : c ≤ 255) : (convert 97 9 (.slice (some ⟨w.heap.size, 0, none⟩) 1 1)).run Tryz.prog (w.alloc (.cells #[.int .u8 c] 5)) = .ok (.string ⟨#[UInt8.ofNat c.toNat]⟩) (w.alloc (.cells #[.int .u8 c] 5)) := by
  have h := run_convert_bytes_back (P := Tryz.prog) (w.alloc (.cells #[.int .u8 c] 5)) 97 9 5 ⟨w.heap.size, 0, none⟩ 1 [UInt8.ofNat c.toNat] Tryz.underlying97 Tryz.underlying5 Tryz.underlying9 ?_
  · exact h
  · intro j hj
    obtain rfl : j = 0 := by simpa using hj
    have e : ((UInt8.ofNat c.toNat).toNat : Int) = c := by
      simp; omega
    rw [Addr.add_lit]
    show (w.alloc _).cell? _ = some (.int .u8 ((UInt8.ofNat c.toNat).toNat : Int))
    rw [e]
    have e1 := (MapKept.heap_alloc w (.cells #[.int .u8 c] 5)).1
    simp only [World.cell?]
    rw [e1]; rfl
theorem cat (a b : List UInt8) : ((⟨a.toArray⟩ : ByteArray) ++ ⟨b.toArray⟩) = ⟨(a ++ b).toArray⟩ := by
  apply ByteArray.ext; simp
theorem digit (k : Nat) : 48 + UInt8.ofNat k = UInt8.ofNat (48 + k) := by rw [UInt8.ofNat_add]; rfl

set_option maxHeartbeats 800000 in
/-- markText -/
theorem markT (n : Nat) (w : World) (h1 : 1 ≤ n) (hn : n ≤ 1000000000) : Calls Tryz.prog 32 #[.int .i64 (n : Int)] w fun e w' => e = .returned (.string (mt n)) ∧ Below w.heap.size w w' := by
  generalize hr : mt n = r
  have HR := hide hr
  clear hr
  have y1 : (0 : Int) < (n : Int) := by omega
  go_enter Tryz.func32, Tryz.ntmps32
  go_wp2
  go_loopw [0, 3] (fun t0 t3 wr => ∃ (m : Nat) (out : List UInt8), m ≤ n ∧ t0 = .int .i64 m ∧ t3 = .string ⟨out.toArray⟩ ∧ Hid (digs n = digs m ++ out) ∧ out.length + m ≤ n ∧ Below w.heap.size w wr) (fun t0 _ _ => (intOf t0).toNat)
  case atStart => exact ⟨n, [], Nat.le_refl _, rfl, rfl, by show _ = _; simp, by simp, Below.refl _ _⟩
  case round =>
    obtain ⟨m, out, hm, rfl, rfl, hd, hl, hb⟩ := hrel
    have hl2 : 1 + out.length ≤ 9223372036854775807 := by omega
    by_cases h0 : 0 < m
    · have hcv := conv1 wr (48 + (m : Int) % 10) (by omega) (by omega)
      have y2 : (0 : Int) < (m : Int) := by omega
      go_wp2
      refine ⟨⟨m / 10, UInt8.ofNat (48 + m % 10) :: out, by omega, by go_num, ?_, ?_, by simp; omega, hb.alloc hb.size _⟩, by simp [intOf]; omega⟩
      · have := cat [48 + UInt8.ofNat (m % 10)] out
        rw [digit] at this ⊢
        exact congrArg Value.string this
      · show _ = _
        rw [unhide hd, digs_pos h0]; simp
    · obtain rfl : m = 0 := by omega
      have hout : digs n = out := by rw [unhide hd, digs_zero]; rfl
      go_wp2
      go_ret
      refine ⟨?_, hb⟩
      rw [← unhide HR, mt, hout]
      exact congrArg (fun x => Ending.returned (.string x)) (cat [109] out)

theorem EOwn.setA {W : World} {b : Nat} {l : List E} (h : EOwn W b l) {k : Nat} (hk : k < l.length) (s : ByteArray) :
    EOwn (W.setCell ⟨b, k * 3, none⟩ (.string s)) b (l.set k (s, (l.getD k E0).2.1, (l.getD k E0).2.2)) := by
  refine ⟨⟨by simpa using h.1.1, fun i hi => ?_⟩, fun j => by simpa [World.frozen?_setCell] using h.2 j⟩
  have hi' : i < l.length := by simpa using hi
  obtain ⟨c0, c1, c2⟩ := h.1.2 i hi'
  rw [Nat.zero_add] at c0 c1 c2 ⊢
  have d1 : (⟨b, k * 3, none⟩ : Addr) ≠ ⟨b, i * 3 + 1, none⟩ := fun he => by simp only [Addr.mk.injEq, and_true, true_and] at he; omega
  have d2 : (⟨b, k * 3, none⟩ : Addr) ≠ ⟨b, i * 3 + 2, none⟩ := fun he => by simp only [Addr.mk.injEq, and_true, true_and] at he; omega
  by_cases e : i = k
  · subst e
    rw [List.getD_eq_getElem?_getD, List.getElem?_set_self hi']
    exact ⟨World.cell?_setCell_same _ _ _ c0, by rw [World.cell?_setCell_other _ _ _ _ d1]; exact c1, by rw [World.cell?_setCell_other _ _ _ _ d2]; exact c2⟩
  · have d0 : (⟨b, k * 3, none⟩ : Addr) ≠ ⟨b, i * 3, none⟩ := fun he => by simp only [Addr.mk.injEq, and_true, true_and] at he; omega
    rw [World.cell?_setCell_other _ _ _ _ d0, World.cell?_setCell_other _ _ _ _ d1, World.cell?_setCell_other _ _ _ _ d2, c0, c1, c2, List.getD_eq_getElem?_getD, List.getD_eq_getElem?_getD, List.getElem?_set_ne (by omega)]
    exact ⟨rfl, rfl, rfl⟩
theorem EOwn.setB {W : World} {b : Nat} {l : List E} (h : EOwn W b l) {k : Nat} (hk : k < l.length) (s : ByteArray) :
    EOwn (W.setCell ⟨b, k * 3 + 1, none⟩ (.string s)) b (l.set k ((l.getD k E0).1, s, (l.getD k E0).2.2)) := by
  refine ⟨⟨by simpa using h.1.1, fun i hi => ?_⟩, fun j => by simpa [World.frozen?_setCell] using h.2 j⟩
  have hi' : i < l.length := by simpa using hi
  obtain ⟨c0, c1, c2⟩ := h.1.2 i hi'
  rw [Nat.zero_add] at c0 c1 c2 ⊢
  have d0 : (⟨b, k * 3 + 1, none⟩ : Addr) ≠ ⟨b, i * 3, none⟩ := fun he => by simp only [Addr.mk.injEq, and_true, true_and] at he; omega
  have d2 : (⟨b, k * 3 + 1, none⟩ : Addr) ≠ ⟨b, i * 3 + 2, none⟩ := fun he => by simp only [Addr.mk.injEq, and_true, true_and] at he; omega
  by_cases e : i = k
  · subst e
    rw [List.getD_eq_getElem?_getD, List.getElem?_set_self hi']
    exact ⟨by rw [World.cell?_setCell_other _ _ _ _ d0]; exact c0, World.cell?_setCell_same _ _ _ c1, by rw [World.cell?_setCell_other _ _ _ _ d2]; exact c2⟩
  · have d1 : (⟨b, k * 3 + 1, none⟩ : Addr) ≠ ⟨b, i * 3 + 1, none⟩ := fun he => by simp only [Addr.mk.injEq, and_true, true_and] at he; omega
    rw [World.cell?_setCell_other _ _ _ _ d0, World.cell?_setCell_other _ _ _ _ d1, World.cell?_setCell_other _ _ _ _ d2, c0, c1, c2, List.getD_eq_getElem?_getD, List.getD_eq_getElem?_getD, List.getElem?_set_ne (by omega)]
    exact ⟨rfl, rfl, rfl⟩
theorem EOwn.setQ {W : World} {b : Nat} {l : List E} (h : EOwn W b l) {k : Nat} (hk : k < l.length) (q : Int) :
    EOwn (W.setCell ⟨b, k * 3 + 2, none⟩ (.int .i64 q)) b (l.set k ((l.getD k E0).1, (l.getD k E0).2.1, q)) := by
  refine ⟨⟨by simpa using h.1.1, fun i hi => ?_⟩, fun j => by simpa [World.frozen?_setCell] using h.2 j⟩
  have hi' : i < l.length := by simpa using hi
  obtain ⟨c0, c1, c2⟩ := h.1.2 i hi'
  rw [Nat.zero_add] at c0 c1 c2 ⊢
  have d0 : (⟨b, k * 3 + 2, none⟩ : Addr) ≠ ⟨b, i * 3, none⟩ := fun he => by simp only [Addr.mk.injEq, and_true, true_and] at he; omega
  have d1 : (⟨b, k * 3 + 2, none⟩ : Addr) ≠ ⟨b, i * 3 + 1, none⟩ := fun he => by simp only [Addr.mk.injEq, and_true, true_and] at he; omega
  by_cases e : i = k
  · subst e
    rw [List.getD_eq_getElem?_getD, List.getElem?_set_self hi']
    exact ⟨by rw [World.cell?_setCell_other _ _ _ _ d0]; exact c0, by rw [World.cell?_setCell_other _ _ _ _ d1]; exact c1, World.cell?_setCell_same _ _ _ c2⟩
  · have d2 : (⟨b, k * 3 + 2, none⟩ : Addr) ≠ ⟨b, i * 3 + 2, none⟩ := fun he => by simp only [Addr.mk.injEq, and_true, true_and] at he; omega
    rw [World.cell?_setCell_other _ _ _ _ d0, World.cell?_setCell_other _ _ _ _ d1, World.cell?_setCell_other _ _ _ _ d2, c0, c1, c2, List.getD_eq_getElem?_getD, List.getD_eq_getElem?_getD, List.getElem?_set_ne (by omega)]
    exact ⟨rfl, rfl, rfl⟩

/-- the marks of a row -/
def marksE (k n : Nat) : List E := (List.range n).map fun i => (mt (k + 3 * i), mt (k + 3 * i + 1), ((k + 3 * i + 2 : Nat) : Int))
theorem marksE_len (k n : Nat) : (marksE k n).length = n := by simp [marksE]
theorem marksE_step (k : Nat) (l : List E) (j : Nat) (h : j < l.length) : (marksE k j ++ l.drop j).set j (mt (k + 3 * j), mt (k + 3 * j + 1), ((k + 3 * j + 2 : Nat) : Int)) = marksE k (j + 1) ++ l.drop (j + 1) := by
  rw [List.set_append_right _ _ (by rw [marksE_len]; exact Nat.le_refl _), marksE_len, Nat.sub_self, List.drop_eq_getElem_cons h, List.set_cons_zero]
  have e : marksE k (j + 1) = marksE k j ++ [(mt (k + 3 * j), mt (k + 3 * j + 1), ((k + 3 * j + 2 : Nat) : Int))] := by
    unfold marksE
    rw [List.range_succ, List.map_append]
    rfl
  rw [e, List.append_assoc]
  rfl
theorem getD_set {L : List E} {j : Nat} (h : j < L.length) (y : E) : (L.set j y).getD j E0 = y := by simp [List.getD, h]

set_option maxHeartbeats 1000000 in
/-- markUseEventS -/
theorem markEvs (B : Nat) (v : Value) (l : List E) (k : Nat) (w : World) (h : EN B w v l) (hl : l.length ≤ 1048576) (h0 : 1 ≤ k) (h1 : k ≤ 100000000) :
    Calls Tryz.prog 14 #[v, .int .i64 (k : Int)] w fun e w' => e = .returned (.int .i64 ((k + 3 * l.length : Nat) : Int)) ∧ EN B w' v (marksE k l.length) ∧ ∃ r, w.grownBy w' r ∧ ∀ b, r = some b → v.ownBlock = some b ∧ l ≠ [] ∧ B ≤ b := by
  rcases h with ⟨rfl, a, c, rfl⟩ | ⟨b, cap, rfl, hB, hO⟩
  · go_enter Tryz.func14, Tryz.ntmps14
    go_wp2
    refine wp_loop_rounds 1 ?_
    rw [rounds_succ]
    go_wp2
    go_ret
    exact ⟨by simp, .inl ⟨rfl, _, _, rfl⟩, none, grow0 _ _, fun b hb => by simp at hb⟩
  · by_cases hne : l = []
    · subst hne
      clear hO
      go_enter Tryz.func14, Tryz.ntmps14
      go_wp2
      refine wp_loop_rounds 1 ?_
      rw [rounds_succ]
      go_wp2
      go_ret
      exact ⟨by simp, .inl ⟨rfl, _, _, rfl⟩, none, grow0 _ _, fun b hb => by simp at hb⟩
    have HO := hide hO
    clear hO
    go_enter Tryz.func14, Tryz.ntmps14
    go_wp2
    go_loopw [1, 5] (fun t i wr => ∃ j : Nat, j ≤ l.length ∧ i = .int .i64 j ∧ t = .int .i64 ((k + 3 * j : Nat) : Int) ∧ Hid (EOwn wr b (marksE k j ++ l.drop j)) ∧ Hid (w.grownBy wr (some b))) (fun _ i _ => l.length - (intOf i).toNat)
    case atStart => exact ⟨0, Nat.zero_le _, rfl, by simp, by show EOwn _ _ _; simpa [marksE] using unhide HO, hide (grow0 _ _)⟩
    case round =>
      obtain ⟨j, hj, rfl, rfl, hd, hg⟩ := hrel
      by_cases hlt : j < l.length
      · have hj2 : j < (marksE k j ++ l.drop j).length := by rw [List.length_append, marksE_len, List.length_drop]; omega
        have HS := hide (marksE_step k l j hlt)
        generalize marksE k j ++ l.drop j = L at *
        have i1 : (0 : Int) ≤ (j : Int) := by omega
        have i2 : (j : Int) < (l.length : Int) := by omega
        go_wp2_with (fail)
        refine (markT (k + 3 * j) wr (by omega) (by omega)).mono ?_
        rintro e w1 ⟨rfl, hb1⟩
        have ho1 := (unhide hd).kept hb1
        obtain ⟨c0, _, _⟩ := ho1.1.2 j hj2
        have f0 := ho1.2 (j * 3)
        rw [Nat.zero_add] at c0
        have ho2 := ho1.setA hj2 (mt (k + 3 * j))
        generalize hy0 : L.getD j E0 = y0 at *
        have O2 := hide ho2
        have G2 := hide (growT (unhide hg) (growT (growB hb1 (some b)) (growS w1 b (j * 3) (.string (mt (k + 3 * j))))))
        clear ho1 ho2 hb1 hd hg
        generalize mt (k + 3 * j) = m1 at *
        go_wp2_with (fail)
        have e1 : ((k + 3 * j : Nat) : Int) + 1 = ((k + 3 * j + 1 : Nat) : Int) := by omega
        refine (markT (k + 3 * j + 1) _ (by omega) (by omega)).mono ?_
        rintro e w2 ⟨rfl, hb2⟩
        have ho3 := (unhide O2).kept hb2
        have hj3 : j < (L.set j (m1, y0.2.1, y0.2.2)).length := by simpa using hj2
        obtain ⟨_, c1, _⟩ := ho3.1.2 j hj3
        have f1 := ho3.2 (j * 3 + 1)
        rw [Nat.zero_add] at c1
        have ho4 := ho3.setB hj3 (mt (k + 3 * j + 1))
        rw [getD_set hj2, List.set_set] at ho4
        have hj4 : j < (L.set j (m1, mt (k + 3 * j + 1), y0.2.2)).length := by simpa using hj2
        obtain ⟨_, _, c2⟩ := ho4.1.2 j hj4
        have f2 := ho4.2 (j * 3 + 2)
        rw [Nat.zero_add] at c2
        have ho5 := ho4.setQ hj4 ((k + 3 * j + 2 : Nat) : Int)
        rw [getD_set hj2, List.set_set] at ho5
        have O5 := hide ho5
        have G4 := hide (growT (unhide G2) (growT (growB hb2 (some b)) (growS w2 b (j * 3 + 1) (.string (mt (k + 3 * j + 1))))))
        have G5 := hide (growT (unhide G4) (growS _ b (j * 3 + 2) (.int .i64 ((k + 3 * j + 2 : Nat) : Int))))
        have e3 : ((k + 3 * j + 1 : Nat) : Int) + 1 = ((k + 3 * j + 2 : Nat) : Int) := by omega
        clear ho3 ho4 ho5 hb2 O2 G2 G4 hj3 hj4
        generalize mt (k + 3 * j + 1) = m2 at *
        rw [unhide HS] at O5
        go_wp2
        exact ⟨⟨j + 1, by omega, by go_num, by congr 1, O5, G5⟩, by simp [intOf]; omega⟩
      · obtain rfl : j = l.length := by omega
        go_wp2
        go_ret
        refine ⟨rfl, .inr ⟨b, cap, by rw [marksE_len], ⟨hB.1, by rw [marksE_len]; exact hB.2⟩, ?_⟩, some b, unhide hg, fun b' hb' => by cases hb'; exact ⟨rfl, hne, hB.1⟩⟩
        have := unhide hd
        simpa using this

end Go.Proofs.YtnchgeiinkaefaaGreatDoor.Evs
end

section
/-
  A slice of uses of a call's own.
-/
namespace Go.Proofs.YtnchgeiinkaefaaGreatDoor.Sums
set_option linter.unusedVariables false
open Go.RowKit
open Uses (U U0 UOwn UC UR)

/-- the slice v holds the uses l in a block of its own, not below B -/
def UN (B : Nat) (W : World) (v : Value) (l : List U) : Prop :=
  (l = [] ∧ ∃ a c, v = .slice a 0 c) ∨ ∃ b cap, v = .slice (some ⟨b, 0, none⟩) l.length cap ∧ (B ≤ b ∧ l.length ≤ cap) ∧ UOwn W b l
theorem UN.ur {B : Nat} {W : World} {v : Value} {l : List U} (h : UN B W v l) : UR W v l := by
  rcases h with h | ⟨b, cap, rfl, _, hc⟩
  · exact .inl h
  · exact .inr ⟨b, 0, cap, rfl, hc.1⟩
theorem UN.kept {B : Nat} {W W' : World} {v : Value} {l : List U} (h : UN B W v l) (hb : Below W.heap.size W W') : UN B W' v l := by
  rcases h with h | ⟨b, cap, rfl, h1, hc⟩
  · exact .inl h
  · exact .inr ⟨b, cap, rfl, h1, hc.kept hb⟩

theorem UN.low {B B' : Nat} {W : World} {v : Value} {l : List U} (h : UN B W v l) (hb : B' ≤ B) : UN B' W v l := by
  rcases h with h | ⟨b, cap, rfl, h1, hc⟩
  · exact .inl h
  · exact .inr ⟨b, cap, rfl, ⟨Nat.le_trans hb h1.1, h1.2⟩, hc⟩
end Go.Proofs.YtnchgeiinkaefaaGreatDoor.Sums
end

section
/-
  The laws' own marks on slices of tariffs' lines: markBillLineS.
-/
namespace Go.Proofs.YtnchgeiinkaefaaGreatDoor.Evs
set_option linter.unusedVariables false
open Go.RowKit RegIn

set_option maxHeartbeats 1000000 in
/-- markBillLineS -/
theorem markLins (B : Nat) (v : Value) (l : List E) (k : Nat) (w : World) (h : EN B w v l) (hl : l.length ≤ 1048576) (h0 : 1 ≤ k) (h1 : k ≤ 100000000) :
    Calls Tryz.prog 13 #[v, .int .i64 (k : Int)] w fun e w' => e = .returned (.int .i64 ((k + 3 * l.length : Nat) : Int)) ∧ EN B w' v (marksE k l.length) ∧ ∃ r, w.grownBy w' r ∧ ∀ b, r = some b → v.ownBlock = some b ∧ l ≠ [] ∧ B ≤ b := by
  rcases h with ⟨rfl, a, c, rfl⟩ | ⟨b, cap, rfl, hB, hO⟩
  · go_enter Tryz.func13, Tryz.ntmps13
    go_wp2
    refine wp_loop_rounds 1 ?_
    rw [rounds_succ]
    go_wp2
    go_ret
    exact ⟨by simp, .inl ⟨rfl, _, _, rfl⟩, none, grow0 _ _, fun b hb => by simp at hb⟩
  · by_cases hne : l = []
    · subst hne
      clear hO
      go_enter Tryz.func13, Tryz.ntmps13
      go_wp2
      refine wp_loop_rounds 1 ?_
      rw [rounds_succ]
      go_wp2
      go_ret
      exact ⟨by simp, .inl ⟨rfl, _, _, rfl⟩, none, grow0 _ _, fun b hb => by simp at hb⟩
    have HO := hide hO
    clear hO
    go_enter Tryz.func13, Tryz.ntmps13
    go_wp2
    go_loopw [1, 5] (fun t i wr => ∃ j : Nat, j ≤ l.length ∧ i = .int .i64 j ∧ t = .int .i64 ((k + 3 * j : Nat) : Int) ∧ Hid (EOwn wr b (marksE k j ++ l.drop j)) ∧ Hid (w.grownBy wr (some b))) (fun _ i _ => l.length - (intOf i).toNat)
    case atStart => exact ⟨0, Nat.zero_le _, rfl, by simp, by show EOwn _ _ _; simpa [marksE] using unhide HO, hide (grow0 _ _)⟩
    case round =>
      obtain ⟨j, hj, rfl, rfl, hd, hg⟩ := hrel
      by_cases hlt : j < l.length
      · have hj2 : j < (marksE k j ++ l.drop j).length := by rw [List.length_append, marksE_len, List.length_drop]; omega
        have HS := hide (marksE_step k l j hlt)
        generalize marksE k j ++ l.drop j = L at *
        have i1 : (0 : Int) ≤ (j : Int) := by omega
        have i2 : (j : Int) < (l.length : Int) := by omega
        go_wp2_with (fail)
        refine (markT (k + 3 * j) wr (by omega) (by omega)).mono ?_
        rintro e w1 ⟨rfl, hb1⟩
        have ho1 := (unhide hd).kept hb1
        obtain ⟨c0, _, _⟩ := ho1.1.2 j hj2
        have f0 := ho1.2 (j * 3)
        rw [Nat.zero_add] at c0
        have ho2 := ho1.setA hj2 (mt (k + 3 * j))
        generalize hy0 : L.getD j E0 = y0 at *
        have O2 := hide ho2
        have G2 := hide (growT (unhide hg) (growT (growB hb1 (some b)) (growS w1 b (j * 3) (.string (mt (k + 3 * j))))))
        clear ho1 ho2 hb1 hd hg
        generalize mt (k + 3 * j) = m1 at *
        go_wp2_with (fail)
        have e1 : ((k + 3 * j : Nat) : Int) + 1 = ((k + 3 * j + 1 : Nat) : Int) := by omega
        refine (markT (k + 3 * j + 1) _ (by omega) (by omega)).mono ?_
        rintro e w2 ⟨rfl, hb2⟩
        have ho3 := (unhide O2).kept hb2
        have hj3 : j < (L.set j (m1, y0.2.1, y0.2.2)).length := by simpa using hj2
        obtain ⟨_, c1, _⟩ := ho3.1.2 j hj3
        have f1 := ho3.2 (j * 3 + 1)
        rw [Nat.zero_add] at c1
        have ho4 := ho3.setB hj3 (mt (k + 3 * j + 1))
        rw [getD_set hj2, List.set_set] at ho4
        have hj4 : j < (L.set j (m1, mt (k + 3 * j + 1), y0.2.2)).length := by simpa using hj2
        obtain ⟨_, _, c2⟩ := ho4.1.2 j hj4
        have f2 := ho4.2 (j * 3 + 2)
        rw [Nat.zero_add] at c2
        have ho5 := ho4.setQ hj4 ((k + 3 * j + 2 : Nat) : Int)
        rw [getD_set hj2, List.set_set] at ho5
        have O5 := hide ho5
        have G4 := hide (growT (unhide G2) (growT (growB hb2 (some b)) (growS w2 b (j * 3 + 1) (.string (mt (k + 3 * j + 1))))))
        have G5 := hide (growT (unhide G4) (growS _ b (j * 3 + 2) (.int .i64 ((k + 3 * j + 2 : Nat) : Int))))
        have e3 : ((k + 3 * j + 1 : Nat) : Int) + 1 = ((k + 3 * j + 2 : Nat) : Int) := by omega
        clear ho3 ho4 ho5 hb2 O2 G2 G4 hj3 hj4
        generalize mt (k + 3 * j + 1) = m2 at *
        rw [unhide HS] at O5
        go_wp2
        exact ⟨⟨j + 1, by omega, by go_num, by congr 1, O5, G5⟩, by simp [intOf]; omega⟩
      · obtain rfl : j = l.length := by omega
        go_wp2
        go_ret
        refine ⟨rfl, .inr ⟨b, cap, by rw [marksE_len], ⟨hB.1, by rw [marksE_len]; exact hB.2⟩, ?_⟩, some b, unhide hg, fun b' hb' => by cases hb'; exact ⟨rfl, hne, hB.1⟩⟩
        have := unhide hd
        simpa using this
end Go.Proofs.YtnchgeiinkaefaaGreatDoor.Evs
end
