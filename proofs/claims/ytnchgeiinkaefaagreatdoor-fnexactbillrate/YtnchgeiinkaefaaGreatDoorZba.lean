/-
  Texts of this proof laid together, in build order; each says of itself what it holds.
-/
import Derived.Test.YtnchgeiinkaefaaGreatDoorZap
import Derived.Test.YtnchgeiinkaefaaGreatDoorZaz
import Derived.Test.YtnchgeiinkaefaaGreatDoorZay
import Derived.Test.YtnchgeiinkaefaaGreatDoorZav
import Derived.Test.YtnchgeiinkaefaaGreatDoorZax
import Derived.Test.YtnchgeiinkaefaaGreatDoorZah
import Derived.Test.YtnchgeiinkaefaaGreatDoorZaw
section
/-
  spec.BillRate.
-/
namespace Go.Proofs.YtnchgeiinkaefaaGreatDoor.Bill
set_option linter.unusedVariables false
open Go.RowKit Evs
open Tax
open BRow (R R0 RC ROwn RN XR listAppR)
open Uses (U UR)
open Sums (useSumsS sumsO UN)

theorem usum_len {evs : List E} (h : Evs.okB evs = true) : (sumsO evs).length ≤ 20 := by
  have h2 := h
  unfold Evs.okB at h2
  rw [Bool.and_eq_true, decide_eq_true_eq] at h2
  unfold sumsO
  rw [if_pos h]
  have := Sums.sums_len evs evs.length (Nat.le_refl _)
  rw [List.take_length] at this
  omega

set_option maxRecDepth 20000 in
set_option maxHeartbeats 8000000 in
theorem rateS (tv ev : Value) (t evs : List E) (w : World) (hT : ER w tv t) (hE : ER w ev evs) (ht : t.length ≤ 1048576) (hts : ∀ u ∈ t, u.1.size ≤ maxLen ∧ u.2.1.size ≤ maxLen) (he : evs.length ≤ 1048576) (hes : ∀ u ∈ evs, u.1.size ≤ maxLen ∧ u.2.1.size ≤ maxLen) :
    Calls Tryz.prog 6 #[tv, ev] w fun x w' => ∃ v c, x = .returned (.tuple #[v, .int .i64 c]) ∧ RateOut w w' t evs (sumsO evs) v c ∧ Below w.heap.size w w' := by
  obtain ⟨ta, tc, rfl⟩ := hT.slice
  obtain ⟨ea, ec, rfl⟩ := hE.slice
  have HT := hide hT
  have HE := hide hE
  have HTS := hide hts
  clear hT hE hts
  go_enter Tryz.func6, Tryz.ntmps6
  go_wp2_with (fail)
  refine (tarS _ t w (unhide HT) ht (unhide HTS)).mono ?_
  rintro x w1 ⟨rfl, hb1⟩
  have HB1 := hide hb1
  have HE1 := hide ((unhide HE).kept hb1)
  clear hb1 HE
  cases hk : okL t with
  | false =>
    go_wp2_with (fail)
    go_ret2
    exact ⟨_, _, rfl, .inl ⟨by rw [hk]; rfl, rfl, rfl⟩, unhide HB1⟩
  | true =>
  go_wp2_with (fail)
  refine (Evs.okS _ evs w1 (unhide HE1) he hes).mono ?_
  rintro x w2 ⟨rfl, hb2⟩
  have HB2 := hide (below_trans (unhide HB1) hb2)
  have HE2 := hide ((unhide HE1).kept hb2)
  clear hb2 HE1 HB1
  cases hv : Evs.okB evs with
  | false =>
    go_wp2_with (fail)
    go_ret2
    exact ⟨_, _, rfl, .inl ⟨by rw [hv]; simp, rfl, rfl⟩, unhide HB2⟩
  | true =>
  have HOK : Hid ((okL t && Evs.okB evs) = true) := hide (by rw [hk, hv]; rfl)
  have hul := usum_len hv
  obtain ⟨h6, hlp⟩ := okL_parts hk
  have HLP := hide hlp
  clear hlp hk
  go_wp2_with (fail)
  refine (useSumsS _ evs w2 (unhide HE2) he hes).mono ?_
  rintro x w3 ⟨uv, rfl, hu, hb3⟩
  have HB3 := hide (below_trans (unhide HB2) hb3)
  have HU := hide hu.ur
  clear hu hb3 HE2 HB2 hv
  generalize hus : sumsO evs = us at *
  have HUS := hide hus
  clear hus
  obtain ⟨ua, uc, huf⟩ : ∃ a c, uv = .slice a us.length c := by
    rcases unhide HU with ⟨rfl, a, c, rfl⟩ | ⟨b, o, cap, rfl, _⟩
    · exact ⟨_, _, rfl⟩
    · exact ⟨_, _, rfl⟩
  subst huf
  go_wp2_with (fail)
  have X0 := hide (XR.made w3 w3.heap.size (Nat.le_refl _) 55 rfl)
  have Y0 := hide (Rule.below_alloc w3 (.cells #[] 55))
  go_loopw [7, 8, 9] (fun rv sv iv wr => ∃ i g c' : Nat, i ≤ t.length ∧ iv = .int .i64 i ∧ rv = .slice (some ⟨g, 0, none⟩) i c' ∧ sv = .int .i64 (sumA (netJ us t) i) ∧ Hid (XR wr w3.heap.size g c' (rowsN us t i)) ∧ Hid (∀ j, j < i → hasJ us t j = true) ∧ Hid (Coin.okB (sumA (netJ us t) i) = true) ∧ Hid (Below w3.heap.size w3 wr)) (fun _ _ iv _ => t.length - (intOf iv).toNat)
  case atStart => exact ⟨0, w3.heap.size, 0, Nat.zero_le _, rfl, rfl, rfl, X0, hide (fun j hj => by omega), hide (by simp [sumA, sumG, Coin.okB]), Y0⟩
  case round =>
    obtain ⟨i, g, c', hi, rfl, rfl, rfl, hX, hH, hO, hB⟩ := hrel
    clear X0 Y0
    have hob := Coin.okB_iff.1 (unhide hO)
    have HBW := hide (below_trans (unhide HB3) (unhide hB))
    by_cases hlt : i < t.length
    · obtain ⟨b2, o2, cap2, hcf, hc⟩ : ∃ b2 o2 cap2, Value.slice ta t.length tc = .slice (some ⟨b2, o2, none⟩) t.length cap2 ∧ EC w b2 o2 t := by
        rcases unhide HT with ⟨h, _⟩ | h
        · rw [h] at hlt; simp at hlt
        · exact h
      simp only [Value.slice.injEq, true_and] at hcf
      obtain ⟨rfl, rfl⟩ := hcf
      obtain ⟨c0, c1, c2⟩ := (hc.kept (unhide HBW)).2 i hlt
      have hb2w : b2 < w.heap.size := hc.1
      have i1 : (0 : Int) ≤ (i : Int) := by omega
      have i2 : (i : Int) < (t.length : Int) := by omega
      obtain ⟨_, hmz⟩ := unhide HTS (t.getD i E0) (by simp [List.getD, hlt])
      obtain ⟨hrb, _, _⟩ := unhide HLP i hlt
      have HSC := hide (rowsN_succ us t i)
      have HSS := hide (sumA_succ (netJ us t) i)
      have HNJ : Hid (netJ us t i = (netO us (t.getD i E0).2.1).getD 0) := hide (by unfold netJ; rw [if_pos hlt])
      have HHJ : Hid (hasJ us t i = (netO us (t.getD i E0).2.1).isSome) := hide rfl
      have HU2 := hide ((unhide HU).kept (unhide hB))
      have HNO := hide (fun h => rateB_no (us := us) hlt h)
      have HOV := hide (fun h => rateB_over (us := us) (t := t) (i := i + 1) hlt h)
      clear hc
      generalize t.getD i E0 = y at *
      obtain ⟨s, m, q⟩ := y
      simp only at c0 c1 c2 hmz hrb HSC HNJ HHJ
      go_wp2_with (fail)
      refine (lineNetS s m q _ us wr hmz hrb (unhide HU2) (by omega)).mono ?_
      rintro x w4 ⟨nv, ok, rfl, hN, hb4⟩
      have HB4 := hide (below_trans (unhide hB) hb4)
      have HX4 := hide ((unhide hX).kept (growB hb4 none) (by simp))
      have c0' : w4.cell? ⟨b2, o2 + i * 3, none⟩ = some (.string s) := (hb4.cell (p := ⟨b2, o2 + i * 3, none⟩) (Nat.lt_of_lt_of_le hb2w (unhide HBW).size)).trans c0
      clear hb4 hX hB HU2 c0 c1 c2
      cases ok with
      | false =>
        obtain ⟨rfl, hn⟩ := hN.2 rfl
        have HR := hide (unhide HNO ((unhide HHJ).trans (by rw [hn]; rfl)))
        have HBF := hide (below_trans (unhide HB3) (unhide HB4))
        clear hN hn HNO HOV HX4
        go_wp2_with (fail)
        go_ret2
        exact ⟨_, _, rfl, .inr (.inl ⟨unhide HOK, (by rw [unhide HUS]; exact unhide HR), rfl, rfl⟩), unhide HBF⟩
      | true =>
        obtain ⟨hn, n0, n1⟩ := hN.1 rfl
        have hnj : netJ us t i = nv := by rw [unhide HNJ, hn]; rfl
        have hhj : hasJ us t i = true := by rw [unhide HHJ, hn]; rfl
        have HSS2 : Hid (sumA (netJ us t) (i + 1) = sumA (netJ us t) i + nv) := hide (by rw [unhide HSS, hnj])
        have HSC2 : Hid (rowsN us t (i + 1) = rowsN us t i ++ [(s, nv, 0)]) := hide (by rw [unhide HSC, hnj])
        have hH2 : Hid (∀ j, j < i + 1 → hasJ us t j = true) := hide (fun j hj => by
          by_cases e : j = i
          · subst e; exact hhj
          · exact unhide hH j (by omega))
        have HLN := hide (rowsN_len us t i)
        clear hN hn HNO hnj hhj HSS HSC HNJ HHJ hH
        generalize sumA (netJ us t) i = sg at *
        go_wp2_with (fail)
        refine (Coin.okS (sg + nv) _).mono ?_
        rintro x w5 ⟨rfl, hw5⟩
        subst hw5
        cases hok : Coin.okB (sg + nv) with
        | false =>
          have HR := hide (unhide HOV (by rw [unhide HSS2]; exact hok))
          have HBF := hide (below_trans (unhide HB3) (unhide HB4))
          clear hok HOV HX4
          go_wp2_with (fail)
          go_ret2
          exact ⟨_, _, rfl, .inr (.inl ⟨unhide HOK, (by rw [unhide HUS]; exact unhide HR), rfl, rfl⟩), unhide HBF⟩
        | true =>
          have HO2 : Hid (Coin.okB (sumA (netJ us t) (i + 1)) = true) := hide (by rw [unhide HSS2]; exact hok)
          have hcl : (rowsN us t i).length + [(s, nv, (0 : Int))].length ≤ 3000000 := by rw [unhide HLN]; simp; omega
          have hz4 := (unhide HB4).size
          clear hok HOV
          go_wp2_with (first | (at_builtin; refine listAppR _ rfl _ _ rfl w3.heap.size g c' i (rowsN us t i) [(s, nv, 0)] _ (unhide HLN) rfl ((unhide HX4).kept (growB (Rule.below_alloc _ _) none) (by simp)) rfl (newR _ s nv 0) hcl (by simp; omega) ?_; intro b6 c6 w6 hx6 hg6 hat6 hlt6) | fail)
          have hgl := (unhide HX4).own.1
          have HX6 : Hid (XR w6 w3.heap.size b6 c6 (rowsN us t (i + 1))) := hide (by rw [unhide HSC2]; exact hx6)
          have HB6 := hide (((unhide HB4).alloc hz4 _).grown hg6 (by simp; omega) (fun j hj => by cases hj; exact hgl))
          clear hx6 hg6 hat6 hlt6 HX4
          go_wp2_with (fail)
          exact ⟨⟨i + 1, b6, c6, by omega, by go_num, rfl, by rw [unhide HSS2], HX6, hH2, HO2, HB6⟩, by simp [intOf]; omega⟩
    · obtain rfl : i = t.length := by omega
      obtain ⟨hg3, hown⟩ := (unhide hX).own
      have hcap := (unhide hX).cap
      rw [rowsN_len] at hcap
      have hz3 := (unhide HB3).size
      have HNF := hide (netF_rowsN us t)
      have HLN := hide (rowsN_len us t t.length)
      have HOWN := hide hown
      have HOF := hide (fun j h => oldF_rowsN us t (j := j) h)
      have HEN : Hid (allTold (netJ us t) (rateF t) t.length = true → rateB us t = Coin.okB (sumA (netJ us t) t.length + sumA (owed (netJ us t) (rateF t) t.length) t.length)) := hide (fun h => rateB_end (unhide hH) (unhide hO) h)
      have HOB : Hid (∀ j, j < t.length → 0 ≤ owed (netJ us t) (rateF t) t.length j ∧ owed (netJ us t) (rateF t) t.length j ≤ 500000000005001) := hide (fun j hj => owed_bd hj (netJ_bd us t j) (unhide HLP j hj).2)
      have HSO : Hid (∀ k, k ≤ t.length → 0 ≤ sumA (owed (netJ us t) (rateF t) t.length) k ∧ sumA (owed (netJ us t) (rateF t) t.length) k ≤ 3000000000030006) := hide (fun k hk => by
        have := sumG_bd (g := fun _ => true) (f := owed (netJ us t) (rateF t) t.length) (m := 500000000005001) (by omega) k (fun i hi => unhide HOB i (by omega))
        have h2 : (k : Int) * 500000000005001 ≤ 6 * 500000000005001 := Int.mul_le_mul_of_nonneg_right (by omega) (by omega)
        unfold sumA; omega)
      have HRD : Hid (∀ W, ROwn W g (rowsF (rowsN us t t.length) (owed (netF (rowsN us t t.length)) (rateF t) t.length)) → RN w.heap.size W (.slice (some ⟨g, 0, none⟩) t.length c') (rated us t)) := hide (fun W hW => by
        rw [netF_rowsN] at hW
        exact .inr ⟨g, c', by rw [rated, rowsF_len, rowsN_len], ⟨by omega, by rw [rated, rowsF_len, rowsN_len]; exact hcap⟩, hW⟩)
      clear hX hH hO hown hlt
      go_wp2_with (fail)
      refine (taxesS w _ t g c' t.length (rowsN us t t.length) wr (unhide HT) (unhide HBW) (unhide HOWN) (by omega) (unhide HLN) rfl h6 (fun j hj => by rw [unhide HNF]; exact netJ_bd us t j) (fun j hj => (unhide HLP j hj).2) (unhide HOF)).mono ?_
      rintro x w4 ⟨hb4, ⟨ha, rfl, hR4⟩ | ⟨ha, rfl⟩⟩
      · rw [unhide HNF] at ha
        have HE2 := hide (unhide HEN ha)
        have HRD2 := hide (unhide HRD w4 hR4)
        have HR4 : Hid (ROwn w4 g (rated us t)) := hide (by rw [unhide HNF] at hR4; exact hR4)
        have HB4 := hide hb4
        clear ha hR4 hb4 HEN HRD HOWN HOF HBW hB HB3 HU
        go_wp2_with (fail)
        go_loop [8, 13] (fun sv iv => ∃ k : Nat, k ≤ t.length ∧ iv = .int .i64 k ∧ sv = .int .i64 (sumA (netJ us t) t.length + sumA (owed (netJ us t) (rateF t) t.length) k)) (fun _ iv => t.length - (intOf iv).toNat)
        case atStart => exact ⟨0, Nat.zero_le _, rfl, by simp [sumA, sumG]⟩
        case round =>
          obtain ⟨k, hk, rfl, rfl⟩ := hrel
          have hsk := unhide HSO k hk
          by_cases hkl : k < t.length
          · have hob2 := unhide HOB k hkl
            obtain ⟨_, _, r2⟩ := (unhide HR4).1.2 k (by rw [rated, rowsF_len, rowsN_len]; exact hkl)
            rw [rated, rowsF_get _ _ (by rw [rowsN_len]; exact hkl), Nat.zero_add] at r2
            simp only at r2
            have k1 : (0 : Int) ≤ (k : Int) := by omega
            have k2 : (k : Int) < (t.length : Int) := by omega
            have HSS := hide (sumA_succ (owed (netJ us t) (rateF t) t.length) k)
            generalize owed (netJ us t) (rateF t) t.length k = ow at *
            generalize sumA (owed (netJ us t) (rateF t) t.length) k = so at *
            generalize sumA (netJ us t) t.length = sn at *
            go_wp2
            exact ⟨⟨k + 1, by omega, by go_num, by rw [unhide HSS]; go_num⟩, by simp [intOf]; omega⟩
          · obtain rfl : k = t.length := by omega
            have HE3 := hide (unhide HE2)
            generalize sumA (owed (netJ us t) (rateF t) t.length) t.length = so at *
            generalize sumA (netJ us t) t.length = sn at *
            go_wp2_with (fail)
            refine (Coin.okS (sn + so) _).mono ?_
            rintro x w5 ⟨rfl, hw5⟩
            subst hw5
            cases hok : Coin.okB (sn + so) with
            | false =>
              have HR : Hid (rateB us t = false) := hide ((unhide HE3).trans hok)
              clear hok HE3 HE2
              go_wp2_with (fail)
              go_ret2
              exact ⟨_, _, rfl, .inr (.inl ⟨unhide HOK, (by rw [unhide HUS]; exact unhide HR), rfl, rfl⟩), unhide HB4⟩
            | true =>
              have HR : Hid (rateB us t = true) := hide ((unhide HE3).trans hok)
              clear hok HE3 HE2
              go_wp2_with (fail)
              go_ret2
              exact ⟨_, _, rfl, .inr (.inr ⟨unhide HOK, (by rw [unhide HUS]; exact unhide HR), (by rw [unhide HUS]; exact unhide HRD2), rfl⟩), unhide HB4⟩
      · rw [unhide HNF] at ha
        have HR := hide (rateB_told ha)
        have HB4 := hide hb4
        clear ha hb4 HEN HRD HOWN HOF HBW hB HB3 HU HSO HOB
        go_wp2_with (fail)
        refine wp_loop_rounds 1 ?_
        rw [rounds_succ]
        go_wp2_with (fail)
        go_ret2
        exact ⟨_, _, rfl, .inr (.inl ⟨unhide HOK, (by rw [unhide HUS]; exact unhide HR), rfl, rfl⟩), unhide HB4⟩
end Go.Proofs.YtnchgeiinkaefaaGreatDoor.Bill
end

section
/-
  impl.rateRows.
-/
namespace Go.Proofs.YtnchgeiinkaefaaGreatDoor.Bill
set_option linter.unusedVariables false
open Go.RowKit Evs Go.Shelf
open Tax
open BRow (R R0 RC RR ROwn RN infoR)
open Uses (U UR UC)
open Sums (useSumsI sumsO UN)
open Rule (EnvR)
open RangeP (SeqP rangeP endsP)

attribute [local go_sem] Oper.semAt_some

theorem rown_made (w : World) (n : Nat) (t : TypeId) : ROwn (w.alloc (.cells (madeCells #[.string ByteArray.empty, .int .i64 0, .int .i64 0] (n * 3)) t)) w.heap.size (padR n []) := by
  have := ROwn.made w n t
  unfold padR
  simpa using this
theorem take2 {w X : World} {D D2 : Nat} {v e : Value} (hD : w.heap.size + 2 ≤ D) (h2 : D < D2) (x1 : X.heap[D]? = some (.deferred (some []))) (x2 : X.heap[D2]? = some (.deferred (some []))) (g4 : X.cell? ⟨w.heap.size, 0, none⟩ = some v) (g5 : X.cell? ⟨w.heap.size + 1, 0, none⟩ = some e) (hb : Below w.heap.size w X) :
    (X.putObj D2 (.deferred none)).heap[D]? = some (.deferred (some [])) ∧ ((X.putObj D2 (.deferred none)).putObj D (.deferred none)).cell? ⟨w.heap.size, 0, none⟩ = some v ∧ ((X.putObj D2 (.deferred none)).putObj D (.deferred none)).cell? ⟨w.heap.size + 1, 0, none⟩ = some e ∧ Below w.heap.size w ((X.putObj D2 (.deferred none)).putObj D (.deferred none)) := by
  have hs : D < X.heap.size := by
    refine Nat.lt_of_not_le fun hle => ?_
    rw [Array.getElem?_eq_none hle] at x1; simp at x1
  have y1 : (X.putObj D2 (.deferred none)).heap[D]? = some (.deferred (some [])) := ((grownBy_putObj' X D2 (.deferred none)).block D hs (by simp; omega)).trans x1
  have k1 := fun {p : Addr} {u : Value} (h : X.cell? p = some u) => cell_kept h (grownBy_putObj' X D2 (.deferred none)) (fun r e => by cases e; exact ⟨_, x2, rfl⟩)
  have k2 := fun {p : Addr} {u : Value} (h : (X.putObj D2 (.deferred none)).cell? p = some u) => cell_kept h (grownBy_putObj' _ D (.deferred none)) (fun r e => by cases e; exact ⟨_, y1, rfl⟩)
  exact ⟨y1, k2 (k1 g4), k2 (k1 g5), (hb.trans (belowK_b (w := w) (Nat.le_refl _) X D2 _ _ (by omega) x2 rfl rfl)).trans (belowK_b (w := w) (Nat.le_refl _) _ D _ _ (by omega) y1 rfl rfl)⟩
theorem set2 {W : World} {B : Nat} {v0 e0 v e : Value} (h4 : W.cell? ⟨B, 0, none⟩ = some v0) (h5 : W.cell? ⟨B + 1, 0, none⟩ = some e0) :
    ((W.setCell ⟨B, 0, none⟩ v).setCell ⟨B + 1, 0, none⟩ e).cell? ⟨B, 0, none⟩ = some v ∧ ((W.setCell ⟨B, 0, none⟩ v).setCell ⟨B + 1, 0, none⟩ e).cell? ⟨B + 1, 0, none⟩ = some e :=
  ⟨by rw [World.cell?_setCell_other _ _ _ _ (by simp)]; exact World.cell?_setCell_same _ _ _ h4, World.cell?_setCell_same _ _ _ (by rw [World.cell?_setCell_other _ _ _ _ (by simp)]; exact h5)⟩

set_option maxRecDepth 100000 in
set_option maxHeartbeats 4000000 in
theorem rateRowsI (tv ev : Value) (t evs : List E) (w : World) (hT : ER w tv t) (hE : ER w ev evs) (ht : t.length ≤ 1048576) (hts : ∀ u ∈ t, u.1.size ≤ maxLen ∧ u.2.1.size ≤ maxLen) (he : evs.length ≤ 1048576) (hes : ∀ u ∈ evs, u.1.size ≤ maxLen ∧ u.2.1.size ≤ maxLen) (hEn : EnvR w) :
    Calls Tryz.prog 27 #[tv, ev] w fun x w' => ∃ v c, x = .returned (.tuple #[v, errV c]) ∧ RateOut w w' t evs (sumsO evs) v c ∧ Below w.heap.size w w' := by
  obtain ⟨ta, tc, rfl⟩ := hT.slice
  obtain ⟨ea, ec, rfl⟩ := hE.slice
  have HT := hide hT
  have HE := hide hE
  have HTS := hide hts
  have HEN := hide hEn
  clear hT hE hts hEn
  refine (callsIn_wide (n := 5)).1 ?_
  refine callsIn_of_wp_marks Tryz.func27 rfl trivial ?_ rfl
  simp only [Tryz.ntmps27, List.size_toArray, List.length_cons, List.length_nil, Nat.reduceAdd, Nat.reduceSub, Array.replicate_succ, Array.replicate_zero, List.push_toArray, List.append_toArray, List.nil_append, List.cons_append]
  gi_wp2_with (fail)
  have bA := Rule.below_alloc w (.cells #[.slice none 0 0] 26)
  have bB := bA.trans ((Rule.below_alloc _ (.cells #[.nilIface] 62)).mono bA.size)
  refine ⟨trivial, (callsIn_wide.2 (tarI _ t _ ((unhide HT).kept bB) ht (unhide HTS) ((unhide HEN).kept bB))).mono ?_⟩
  rintro x w1 ⟨rfl, hb1⟩
  obtain ⟨q4, q5, hB1, hz1⟩ := Boxes.box2 hb1
  obtain ⟨c4, f4⟩ := q4 0 _ rfl
  obtain ⟨c5, f5⟩ := q5 0 _ rfl
  have HB1 := hide hB1
  have Q4 := hide q4
  have Q5 := hide q5
  clear bA bB hb1 hB1 q4 q5
  cases hk : okL t with
  | false =>
    have HR : Hid (∀ W', RateOut w W' t evs (sumsO evs) (.slice none 0 0) 4) := hide (fun W' => .inl ⟨by rw [hk]; rfl, rfl, rfl⟩)
    gi_wp2_with (fail)
    refine ⟨trivial, ?_⟩
    gi_wp2_with (fail)
    obtain ⟨g4, g5⟩ := set2 (v := .slice none 0 0) (e := .iface 84 (.int .i64 4)) c4 c5
    refine ⟨.tuple #[.slice none 0 0, .iface 84 (.int .i64 4)], ?_, _, 4, rfl, unhide HR _, ((unhide HB1).setCell (p := ⟨w.heap.size, 0, none⟩) (Nat.le_refl _) _).setCell (p := ⟨w.heap.size + 1, 0, none⟩) (by simp) _⟩
    simp [results, Tryz.results27, go_sem, g4, g5]
  | true =>
    gi_wp2_with (fail)
    refine ⟨trivial, (callsIn_wide.2 (Evs.okI _ evs _ ((unhide HE).kept (unhide HB1)) he hes)).mono ?_⟩
    rintro x w2 ⟨rfl, hb2⟩
    have c4b := (hb2.cell (p := ⟨w.heap.size, 0, none⟩) (by simp; omega)).trans c4
    have f4b := (hb2.frozen (p := ⟨w.heap.size, 0, none⟩) (by simp; omega)).trans f4
    have c5b := (hb2.cell (p := ⟨w.heap.size + 1, 0, none⟩) (by simp; omega)).trans c5
    have f5b := (hb2.frozen (p := ⟨w.heap.size + 1, 0, none⟩) (by simp; omega)).trans f5
    have hz2 : w.heap.size + 2 ≤ w2.heap.size := Nat.le_trans hz1 hb2.size
    have HB2 := hide (below_trans (unhide HB1) hb2)
    clear hb2 c4 f4 c5 f5 HB1 Q4 Q5 hz1
    cases hv : Evs.okB evs with
    | false =>
      have HR : Hid (∀ W', RateOut w W' t evs (sumsO evs) (.slice none 0 0) 4) := hide (fun W' => .inl ⟨by rw [hv, Bool.and_false], rfl, rfl⟩)
      gi_wp2_with (fail)
      obtain ⟨g4, g5⟩ := set2 (v := .slice none 0 0) (e := .iface 84 (.int .i64 4)) c4b c5b
      refine ⟨.tuple #[.slice none 0 0, .iface 84 (.int .i64 4)], ?_, _, 4, rfl, unhide HR _, ((unhide HB2).setCell (p := ⟨w.heap.size, 0, none⟩) (Nat.le_refl _) _).setCell (p := ⟨w.heap.size + 1, 0, none⟩) (by simp) _⟩
      simp [results, Tryz.results27, go_sem, g4, g5]
    | true =>
      have hmk := makeRC t.length ht
      gi_wp2_with (fail)
      have n0 := rown_made w2 t.length 55
      obtain ⟨X1, hX1⟩ : ∃ X1, w2.alloc (.cells (madeCells #[.string ByteArray.empty, .int .i64 0, .int .i64 0] (t.length * 3)) 55) = X1 := ⟨_, rfl⟩
      rw [hX1] at n0
      rw [hX1]
      have s1 : X1.heap.size = w2.heap.size + 1 := by rw [← hX1]; simp
      have k0 : Below w2.heap.size w2 X1 := by rw [← hX1]; exact (Below.refl _ _).alloc (Nat.le_refl _) _
      have n1 := Evs.new1 X1 (.slice (some ⟨w2.heap.size, 0, none⟩) 0 t.length) 26
      rw [s1] at n1
      obtain ⟨X2, hX2⟩ : ∃ X2, X1.alloc (.cells #[.slice (some ⟨w2.heap.size, 0, none⟩) 0 t.length] 26) = X2 := ⟨_, rfl⟩
      have k1 : Below X1.heap.size X1 X2 := by rw [← hX2]; exact (Below.refl _ _).alloc (Nat.le_refl _) _
      have s2 : X2.heap.size = w2.heap.size + 2 := by rw [← hX2]; simp; omega
      rw [hX2] at n1
      rw [hX2]
      have kX := k0.trans (k1.mono (by omega))
      have HB3 := hide (below_trans (unhide HB2) kX)
      refine ⟨trivial, (callsIn_wide.2 (useSumsI _ evs _ ((unhide HE).kept (unhide HB3)) he hes)).mono ?_⟩
      rintro x w4 ⟨uv, rfl, hUN, hb4⟩
      have hB4 : Below w.heap.size w w4 := (unhide HB3).trans (hb4.mono (unhide HB3).size)
      have kW : Below w2.heap.size w2 w4 := kX.trans (hb4.mono (by omega))
      have d4 := (kW.cell (p := ⟨w.heap.size, 0, none⟩) (by simp; omega)).trans c4b
      have e4 := (kW.frozen (p := ⟨w.heap.size, 0, none⟩) (by simp; omega)).trans f4b
      have d5 := (kW.cell (p := ⟨w.heap.size + 1, 0, none⟩) (by simp; omega)).trans c5b
      have e5 := (kW.frozen (p := ⟨w.heap.size + 1, 0, none⟩) (by simp; omega)).trans f5b
      have d6 := (hb4.cell (p := ⟨w2.heap.size + 1, 0, none⟩) (by simp; omega)).trans n1.1
      have e6 := (hb4.frozen (p := ⟨w2.heap.size + 1, 0, none⟩) (by simp; omega)).trans n1.2
      have r0 : ROwn w4 w2.heap.size (padR t.length []) := (n0.kept k1).kept hb4
      have hz4 : w2.heap.size + 2 ≤ w4.heap.size := by have := hb4.size; omega
      have hul := usum_len hv
      have H6 := okL_parts hk
      obtain ⟨us, hus⟩ : ∃ us, sumsO evs = us := ⟨_, rfl⟩
      rw [hus] at hUN hul
      have hUQ : (us = [] ∧ ∃ a c, uv = .slice a 0 c) ∨ ∃ b o cap, uv = .slice (some ⟨b, o, none⟩) us.length cap ∧ UC w4 b o us ∧ w2.heap.size + 2 ≤ b := by
        rcases hUN with h | ⟨b, cap, rfl, hb, hc⟩
        · exact .inl h
        · exact .inr ⟨b, 0, cap, rfl, hc.1, by have := hb.1; omega⟩
      obtain ⟨ua, uc, rfl⟩ : ∃ a c, uv = .slice a us.length c := by
        rcases hUQ with ⟨rfl, a, c, rfl⟩ | ⟨b, o, cap, rfl, _⟩
        · exact ⟨_, _, rfl⟩
        · exact ⟨_, _, rfl⟩
      have HUQ := hide hUQ
      have HB4 := hide hB4
      have HR0 := hide r0
      have HH6 := hide H6
      have HUS := hide hus
      have HUL := hide hul
      have HC : Hid ((w4.cell? ⟨w.heap.size, 0, none⟩ = some (.slice none 0 0) ∧ w4.frozen? ⟨w.heap.size, 0, none⟩ = false) ∧ (w4.cell? ⟨w.heap.size + 1, 0, none⟩ = some .nilIface ∧ w4.frozen? ⟨w.heap.size + 1, 0, none⟩ = false) ∧ (w4.cell? ⟨w2.heap.size + 1, 0, none⟩ = some (.slice (some ⟨w2.heap.size, 0, none⟩) 0 t.length) ∧ w4.frozen? ⟨w2.heap.size + 1, 0, none⟩ = false)) := hide ⟨⟨d4, e4⟩, ⟨d5, e5⟩, d6, e6⟩
      clear hUQ hB4 r0 H6 hus hul d4 e4 d5 e5 d6 e6 hUN kX kW n0 n1 k0 k1 hX1 hX2 s1 s2 hb4 HB3 HB2 c4b c5b f4b f5b hmk X1 X2
      have HK := hide hk
      have HV := hide hv
      clear hk hv
      gi_wp2_with (fail)
      refine ⟨trivial, (netRows 4 (.slice ta t.length tc) (.slice ua us.length uc) rfl rfl w4).mono ?_⟩
      rintro x w5 ⟨rfl, hw5⟩
      gi_wp2_with (fail)
      have hbA : Below w4.heap.size w4 w5 := by rw [hw5]; exact ((Below.refl _ _).alloc (Nat.le_refl _) _).alloc (by simp) _
      have s5 : w5.heap.size = w4.heap.size + 2 := by rw [hw5]; simp
      have pT := Evs.new1 w4 (.slice ta t.length tc) 29
      have pU := Evs.new1 (w4.alloc (.cells #[.slice ta t.length tc] 29)) (.slice ua us.length uc) 48
      rw [← hw5, World.size_alloc] at pU
      have k9 : Below (w4.heap.size + 1) (w4.alloc (.cells #[.slice ta t.length tc] 29)) w5 := by rw [hw5]; exact (Below.refl _ _).alloc (by simp) _
      have dT : w5.cell? ⟨w4.heap.size, 0, none⟩ = some (.slice ta t.length tc) := (k9.cell (p := ⟨w4.heap.size, 0, none⟩) (by simp)).trans pT.1
      have dU := pU.1
      have hz9 := (unhide HB4).size
      have hB5 : Below w.heap.size w w5 := (unhide HB4).trans (hbA.mono hz9)
      have hU5 : (us = [] ∧ ∃ a c, Value.slice ua us.length uc = .slice a 0 c) ∨ ∃ b o cap, Value.slice ua us.length uc = .slice (some ⟨b, o, none⟩) us.length cap ∧ UC w5 b o us ∧ w2.heap.size + 2 ≤ b := by
        rcases unhide HUQ with h | ⟨b, o, cap, h1, h2, h3⟩
        · exact .inl h
        · exact .inr ⟨b, o, cap, h1, UC.keptC h2 (KpC.ofBelow (B := w.heap.size) (B2 := w2.heap.size + 2) hbA) h3, h3⟩
      obtain ⟨⟨a4, b4⟩, ⟨a5, b5⟩, a6, b6⟩ := unhide HC
      have hL0 : LI w w2.heap.size t.length w4.heap.size [] w5 :=
        ⟨⟨⟨(hbA.cell (p := ⟨w.heap.size, 0, none⟩) (by simp; omega)).trans a4, (hbA.frozen (p := ⟨w.heap.size, 0, none⟩) (by simp; omega)).trans b4⟩, ⟨(hbA.cell (p := ⟨w.heap.size + 1, 0, none⟩) (by simp; omega)).trans a5, (hbA.frozen (p := ⟨w.heap.size + 1, 0, none⟩) (by simp; omega)).trans b5⟩, ⟨(hbA.cell (p := ⟨w2.heap.size + 1, 0, none⟩) (by simp; omega)).trans a6, (hbA.frozen (p := ⟨w2.heap.size + 1, 0, none⟩) (by simp; omega)).trans b6⟩, fun _ => (unhide HR0).kept hbA, by omega, by simp⟩, hB5⟩
      have HU5 := hide hU5
      have HB5 := hide hB5
      rw [← hw5]
      clear hU5 hB5 pT pU k9 hbA a4 b4 a5 b5 a6 b6 HC HUQ HR0 hw5
      refine wpIn_rangeFunc_ownH rfl (by omega) (gf := 63) (lb := #[.pointer (some ⟨w4.heap.size, 0, none⟩), .pointer (some ⟨w4.heap.size + 1, 0, none⟩)]) rfl trivial (enters_of Tryz.func63 (by kernel_rfl) rfl)
        (net_stops 4 (by omega) w4.heap.size (w4.heap.size + 1) (w2.heap.size + 2) w ta tc t _ us (unhide HT) (unhide HTS) (unhide HEN) (fun j hj => ((unhide HH6).2 j hj).1) (by have := unhide HUL; omega) (unhide HH6).1 (by omega) (by omega) (by omega) w5 (unhide HB5) (by omega) (by omega) dT dU (unhide HU5)) KpC.trans (KpC.put (n := w5.heap.size) (by omega)) (Below.refl _ _) (fun _ => rfl)
        (LI w w2.heap.size t.length w4.heap.size) (LX w) (LI_own w _ _ _ _ (by omega)) (fun c => LX_own w c _ (by omega)) hL0
        (fun x a' W => ∃ p, w4.heap.size ≤ p ∧ a' = { tmps := #[.slice ta t.length tc, .slice ea evs.length ec, undef, undef, .pointer (some ⟨w.heap.size, 0, none⟩), .pointer (some ⟨w.heap.size + 1, 0, none⟩), .pointer (some ⟨w2.heap.size + 1, 0, none⟩), .pointer (some ⟨p, 0, none⟩), (if x.2.2 then .nilIface else .iface 84 (.int .i64 6)), undef, undef, undef, undef, undef, .slice ta t.length tc, .bool true, .bool false, .bool false, .slice ea evs.length ec, .bool true, .bool false, .bool false, undef, .slice ta t.length tc, .int .i64 t.length, .slice (some ⟨w2.heap.size, 0, none⟩) 0 t.length, .slice ta t.length tc, .slice ea evs.length ec, .slice ua us.length uc, .func (.func 63) #[] #[.pointer (some ⟨w4.heap.size, 0, none⟩), .pointer (some ⟨w4.heap.size + 1, 0, none⟩)], .agg #[.string x.1, .int .i64 x.2.1, .int .i64 0], (if x.2.2 then .nilIface else .iface 84 (.int .i64 6)), undef, undef, undef, undef, undef, undef, undef, undef, undef, undef, undef, undef, undef, undef, undef, undef, undef, undef, undef, undef, undef, undef, undef, undef, undef, undef, undef, undef, undef, undef], defers := [] } ∧
          W.cell? ⟨p, 0, none⟩ = some (.string x.1) ∧ W.cell? ⟨p, 1, none⟩ = some (.int .i64 x.2.1) ∧ W.cell? ⟨p, 2, none⟩ = some (.int .i64 0))
        (fun x a' => Own.from (fun _ A B row hs hg hr => by
          obtain ⟨p, hp, ha, c0, c1, c2⟩ := hs
          exact ⟨p, hp, ha, cell_kept c0 hg hr, cell_kept c1 hg hr, cell_kept c2 hg hr⟩) _)
        ?assign ?body ?done ?stop
      case assign =>
        rintro lp pre ⟨s, m, ok⟩ W K hL hK
        have HK := hide hK
        have HL := hide hL
        have hz8 : w4.heap.size ≤ W.heap.size := hL.1.2.2.2.2.1
        clear hK hL hL0
        have hg := Evs.grown_alloc W (.cells #[.string s, .int .i64 m, .int .i64 0] 55)
        have HLg := hide (LI_own w w2.heap.size t.length w4.heap.size w.heap.size (Nat.le_refl _) pre W _ none (unhide HL) hg (by simp))
        have HG := hide hg
        clear hg HL
        cases ok
        · gi_wp2
          refine unhide HK _ _ ((KeepsOthers.alloc _ _).from _) (KpC.grown (unhide HG) (by simp)) (unhide HLg) ⟨W.heap.size, hz8, rfl, ?_, ?_, ?_⟩
          · go_keep
          · go_keep
          · go_keep
        · gi_wp2
          refine unhide HK _ _ ((KeepsOthers.alloc _ _).from _) (KpC.grown (unhide HG) (by simp)) (unhide HLg) ⟨W.heap.size, hz8, rfl, ?_, ?_, ?_⟩
          · go_keep
          · go_keep
          · go_keep
      case body =>
        rintro lp pre ⟨s, m, ok⟩ a' W hlp hloop hL ⟨p, hp, rfl, c0, c1, c2⟩ hlen
        obtain ⟨hrun, x6, y6, hKO, hKP, hLI⟩ := app_LI s m (by omega) (by omega) hL hlen
        obtain ⟨⟨⟨a4, b4⟩, ⟨a5, b5⟩, ⟨a6, b6⟩, _, _, _⟩, hB⟩ := hL
        have HRUN := hide hrun
        have HKO := hide hKO
        have HKP := hide hKP
        have HLI := hide hLI
        have HB := hide hB
        clear hrun hKO hKP hLI hB hloop hlp hL0
        cases ok
        · clear HRUN HKO HKP HLI x6 y6
          simp only [Bool.false_eq_true, ↓reduceIte] at c0 c1 c2 ⊢
          gi_wp2
          obtain ⟨g4, g5⟩ := set2 (v := .slice none 0 0) (e := .iface 84 (.int .i64 6)) a4 a5
          exact ⟨((KeepsOthers.setCell _ _ _).trans (KeepsOthers.setCell _ _ _)).from _, ⟨rfl, ⟨(s, m, false), by simp, rfl⟩, g4, g5⟩, ((unhide HB).setCell (p := ⟨w.heap.size, 0, none⟩) (Nat.le_refl _) _).setCell (p := ⟨w.heap.size + 1, 0, none⟩) (by simp) _⟩
        · simp only [↓reduceIte] at c0 c1 c2 ⊢
          clear a4 b4 a5 b5
          generalize hX : appW W w2.heap.size pre.length t.length s m = X at *
          clear hX
          gi_wp2_with (first | (gi_at_builtin; refine wpListIn_app rfl _ _ 26 rfl _ _ _ rfl rfl (unhide HRUN) ?_) | gi_in)
          exact ⟨(unhide HKO).from _, unhide HKP, unhide HLI⟩
      case done =>
        rintro D ys W hD rfl hL hK2
        have HKD := hide hK2
        clear hK2 hL0
        obtain ⟨⟨⟨a4, b4⟩, ⟨a5, b5⟩, ⟨a6, b6⟩, h7, h8, h9⟩, hB⟩ := hL
        rw [rowY_seq] at h7
        rw [seqY_len] at a6
        have HJ : Hid (∀ j, j < t.length → hasJ us t j = true) := hide (fun j hj => h9 ((t.getD j E0).1, netJ us t j, hasJ us t j) (by unfold seqY; rw [List.mem_map]; exact ⟨j, by simpa using hj, rfl⟩))
        have HR0 : Hid (0 < t.length → ROwn W w2.heap.size (rowsN us t t.length)) := hide (fun h0 => by have := h7 h0; rwa [padR_full (rowsN_len us t _)] at this)
        have HB := hide hB
        have HCC := hide (And.intro (And.intro a4 b4) (And.intro (And.intro a5 b5) a6))
        clear h7 h9 hB a4 b4 a5 b5 a6 b6 dT dU HU5 HB5 HB4
        gi_wp2_with (fail)
        refine ⟨trivial, (placesByRate 4 (.slice ta t.length tc) rfl W).mono ?_⟩
        rintro x w6 ⟨rfl, hw6⟩
        gi_wp2_with (fail)
        have hbA : Below W.heap.size W w6 := by rw [hw6]; exact (Below.refl _ _).alloc (Nat.le_refl _) _
        have s6 : w6.heap.size = W.heap.size + 1 := by rw [hw6]; simp
        have pT := (Evs.new1 W (.slice ta t.length tc) 29).1
        rw [← hw6] at pT
        rw [← hw6]
        clear hw6
        obtain ⟨⟨a4, b4⟩, ⟨a5, b5⟩, a6⟩ := unhide HCC
        have hDs : D < W.heap.size := by
          refine Nat.lt_of_not_le fun hle => ?_
          have := unhide HKD
          rw [Array.getElem?_eq_none hle] at this; simp at this
        have hB6 : Below w.heap.size w w6 := (unhide HB).trans (hbA.mono (unhide HB).size)
        have hJ0 : LJ w w2.heap.size D w4.heap.size us t 0 w6 :=
          ⟨⟨⟨(hbA.cell (p := ⟨w.heap.size, 0, none⟩) (by simp; omega)).trans a4, (hbA.frozen (p := ⟨w.heap.size, 0, none⟩) (by simp; omega)).trans b4⟩, ⟨(hbA.cell (p := ⟨w.heap.size + 1, 0, none⟩) (by simp; omega)).trans a5, (hbA.frozen (p := ⟨w.heap.size + 1, 0, none⟩) (by simp; omega)).trans b5⟩, (hbA.cell (p := ⟨w2.heap.size + 1, 0, none⟩) (by simp; omega)).trans a6, fun h0 i hi he => by
              rw [rowsT_same (j := 0) (he.trans (by simp [fsU])), rowsT_zero]
              exact ((unhide HR0) h0).kept hbA, by omega, ((Evs.growB hbA none).block D hDs (by simp)).trans (unhide HKD), by simp⟩, hB6⟩
        have HJ0 := hide hJ0
        have HB6 := hide hB6
        clear hJ0 hB6 a4 b4 a5 b5 a6 HCC hbA HR0 HB
        refine rangeP rfl (by omega) (gf := 67) (lb := #[.pointer (some ⟨W.heap.size, 0, none⟩)]) rfl trivial (enters_of Tryz.func67 (by kernel_rfl) rfl)
          (pl_stops 4 (by omega) W.heap.size (w2.heap.size + 2) w ta tc t (unhide HT) (unhide HH6).1 (by omega) (by omega) w6 (unhide HB6) (by omega) (by omega) pT) KpC.trans (KpC.put (n := w6.heap.size) (by omega))
          (fun k args W' h => by obtain ⟨i, g, cap, _, _, _, rfl, _⟩ := h; rfl)
          (LJ w w2.heap.size D w4.heap.size us t) (LY w D us t) (LJ_own w _ _ _ _ us t (by omega) (by omega)) (LY_own w _ _ us t (by omega) (by omega)) (PrP_own _ _ _ _) (unhide HJ0)
          (fun args => { tmps := #[.slice ta t.length tc, .slice ea evs.length ec, undef, undef, .pointer (some ⟨w.heap.size, 0, none⟩), .pointer (some ⟨w.heap.size + 1, 0, none⟩), .pointer (some ⟨w2.heap.size + 1, 0, none⟩), undef, undef, args.getD 0 undef, args.getD 1 undef, undef, undef, undef, .slice ta t.length tc, .bool true, .bool false, .bool false, .slice ea evs.length ec, .bool true, .bool false, .bool false, undef, .slice ta t.length tc, .int .i64 t.length, .slice (some ⟨w2.heap.size, 0, none⟩) 0 t.length, .slice ta t.length tc, .slice ea evs.length ec, .slice ua us.length uc, .func (.func 63) #[] #[.pointer (some ⟨w4.heap.size, 0, none⟩), .pointer (some ⟨w4.heap.size + 1, 0, none⟩)], undef, undef, undef, undef, undef, undef, undef, undef, undef, .slice ta t.length tc, .func (.func 67) #[] #[.pointer (some ⟨W.heap.size, 0, none⟩)], args.getD 0 undef, args.getD 1 undef, undef, undef, undef, undef, undef, undef, undef, undef, undef, undef, undef, undef, undef, undef, undef, undef, undef, undef, undef], defers := [] })
          ?assign2 ?body2 ?done2 ?stop2
        case assign2 =>
          intro lp args W' K hs hK
          obtain ⟨x, y, rfl⟩ : ∃ x y, args = #[x, y] := by
            rcases args with ⟨l⟩
            match l, hs with
            | [x, y], _ => exact ⟨x, y, rfl⟩
          have HK2 := hide hK
          clear hK HJ0
          gi_wp2
          exact unhide HK2
        case body2 =>
          rintro lp k args W' hlp hL ⟨i, g, cap, hi, hF, hk, rfl, hc, hg⟩
          have hsh := share_LJ (cap := cap) (unhide HH6).1 (fun j hj => ((unhide HH6).2 j hj).2) hL hi hF hk hc hg
          have HST := hide (fun W7 (hgr : W'.grownBy W7 (some w2.heap.size)) hR ht => LJ_step (by omega) (by omega) hL hi hF hk hgr hR ht)
          have HSH := hide hsh
          obtain ⟨⟨⟨a4, b4⟩, ⟨a5, b5⟩, a6, _, _, a9, _⟩, hB⟩ := hL
          have HB := hide hB
          have HA9 := hide a9
          clear hsh hB a9 hc HJ0
          have e0 : (#[Value.int .i64 (rateF t i), Value.slice (some ⟨g, 0, none⟩) (plc (rateF t) (rateF t i) t.length).length cap] : Array Value).getD 0 undef = .int .i64 (rateF t i) := rfl
          have e1 : (#[Value.int .i64 (rateF t i), Value.slice (some ⟨g, 0, none⟩) (plc (rateF t) (rateF t i) t.length).length cap] : Array Value).getD 1 undef = .slice (some ⟨g, 0, none⟩) (plc (rateF t) (rateF t i) t.length).length cap := rfl
          dsimp only
          rw [e0, e1]
          clear e0 e1
          gi_wp2_with (fail)
          refine ⟨trivial, (CallsIn.inRound lp (callsIn_wide.2 (unhide HSH))).mono ?_⟩
          rintro e W7 ⟨hgr, ⟨htd, rfl, hR⟩ | ⟨htd, rfl⟩⟩
          · have HLJ := hide (unhide HST W7 hgr hR htd)
            have HGR := hide hgr
            clear HST HSH hgr hR htd a4 b4 a5 b5 a6
            gi_wp2_with (fail)
            exact ⟨KeepsFrom.of_grownBy (unhide HGR) (fun j e => by simp only [Option.some.injEq] at e; omega), KpC.grown (unhide HGR) (fun j e => by simp only [Option.some.injEq] at e; omega), unhide HLJ⟩
          · have HTD := hide htd
            have HGR := hide hgr
            have hlt : ∀ (j : Nat) (v : Value), W'.cell? ⟨j, 0, none⟩ = some v → j < W'.heap.size := fun j v hc => by
              obtain ⟨o, ho, _⟩ := cells_of_cell hc
              refine Nat.lt_of_not_le fun hle => ?_
              rw [Array.getElem?_eq_none hle] at ho; simp at ho
            have d4 := hgr.cell a4 (by simp; omega)
            have d5 := hgr.cell a5 (by simp; omega)
            have f4 : W7.frozen? ⟨w.heap.size, 0, none⟩ = false := by rw [World.frozen?_of_block (hgr.block _ (hlt _ _ a4) (by simp; omega))]; exact b4
            have f5 : W7.frozen? ⟨w.heap.size + 1, 0, none⟩ = false := by rw [World.frozen?_of_block (hgr.block _ (hlt _ _ a5) (by simp; omega))]; exact b5
            have hDW : D < W'.heap.size := by
              refine Nat.lt_of_not_le fun hle => ?_
              have := unhide HA9
              rw [Array.getElem?_eq_none hle] at this; simp at this
            have HD7 := hide ((hgr.block D hDW (by simp; omega)).trans (unhide HA9))
            clear HST HSH hgr htd a4 b4 a5 b5 a6 hlt
            gi_wp2
            obtain ⟨g4, g5⟩ := set2 (v := .slice none 0 0) (e := .iface 84 (.int .i64 6)) d4 d5
            have hKO := (KeepsOthers.setCell W7 ⟨w.heap.size, 0, none⟩ (.slice none 0 0)).trans (KeepsOthers.setCell _ ⟨w.heap.size + 1, 0, none⟩ (.iface 84 (.int .i64 6)))
            exact ⟨(KeepsFrom.of_grownBy (unhide HGR) (fun j e => by simp only [Option.some.injEq] at e; omega)).trans (hKO.from _), ⟨⟨i, hi, unhide HTD⟩, g4, g5, hKO.same D _ (unhide HD7) rfl⟩, (((unhide HB).grown (unhide HGR) (unhide HB).size (fun j e => by simp only [Option.some.injEq] at e; omega)).setCell (p := ⟨w.heap.size, 0, none⟩) (Nat.le_refl _) _).setCell (p := ⟨w.heap.size + 1, 0, none⟩) (by simp) _⟩
        case done2 =>
          rintro D2 k W' hD2 rfl ⟨⟨⟨a4, b4⟩, ⟨a5, b5⟩, a6, h7, h8', h9, h10⟩, hB⟩ hK2
          have HTL := hide (LJ_told (fun m hm => h10 m (by rw [List.take_length]; exact hm)))
          have hrl : (rated us t).length = t.length := by unfold rated; rw [rowsF_len, rowsN_len]
          have HRO : Hid (0 < t.length → ROwn W' w2.heap.size (rated us t)) := hide (fun h0 => by have := h7 h0 t.length (Nat.le_refl _) rfl; rwa [rowsT_end] at this)
          have HRR : Hid (RR W' (.slice (some ⟨w2.heap.size, 0, none⟩) t.length t.length) (rated us t)) := hide (by
            by_cases h0 : t.length = 0
            · exact .inl ⟨List.length_eq_zero_iff.1 (hrl.trans h0), _, _, by rw [h0]⟩
            · exact .inr ⟨w2.heap.size, 0, t.length, by rw [hrl], ((unhide HRO) (by omega)).1⟩)
          have hsb := sums_bdB (rated_bd (us := us) (unhide HK)) (rated us t).length
          rw [List.take_length] at hsb
          have HRB := hide (rateB_last (unhide HK) (unhide HJ) (unhide HTL))
          have HBD := hide (rated_bd (us := us) (unhide HK))
          have HRL := hide hrl
          have HK2' := hide hK2
          have HD9 := hide h9
          have HB := hide hB
          clear h7 h10 hrl hK2 h9 hB HJ0
          gi_wp2_with (fail)
          refine ⟨trivial, (callsIn_wide.2 (sumsB _ _ _ (unhide HRR) (unhide HBD))).mono ?_⟩
          rintro x w8 ⟨rfl, hb8⟩
          have d4 := (hb8.cell (p := ⟨w.heap.size, 0, none⟩) (by simp; omega)).trans a4
          have d5 := (hb8.cell (p := ⟨w.heap.size + 1, 0, none⟩) (by simp; omega)).trans a5
          have d6 := (hb8.cell (p := ⟨w2.heap.size + 1, 0, none⟩) (by simp; omega)).trans a6
          have f4 := (hb8.frozen (p := ⟨w.heap.size, 0, none⟩) (by simp; omega)).trans b4
          have f5 := (hb8.frozen (p := ⟨w.heap.size + 1, 0, none⟩) (by simp; omega)).trans b5
          have HB8 := hide hb8
          clear hb8 a4 a5 a6 b4 b5
          generalize netS (rated us t) = N at *
          generalize taxS (rated us t) = T at *
          gi_wp2_with (fail)
          refine ⟨trivial, (callsIn_wide.2 (Coin.okI (N + T) w8)).mono ?_⟩
          rintro x w9 ⟨rfl, hw9⟩
          replace hw9 := hw9.symm
          subst hw9
          have hlt : ∀ (j : Nat) (o : Obj), W'.heap[j]? = some o → j < W'.heap.size := fun j o ho => by
            refine Nat.lt_of_not_le fun hle => ?_
            rw [Array.getElem?_eq_none hle] at ho; simp at ho
          have HE2 := hide (((Evs.growB (unhide HB8) none).block D2 (hlt _ _ (unhide HK2')) (by simp)).trans (unhide HK2'))
          have HE1 := hide (((Evs.growB (unhide HB8) none).block D (hlt _ _ (unhide HD9)) (by simp)).trans (unhide HD9))
          have HBZ := hide ((unhide HB).trans ((unhide HB8).mono (unhide HB).size))
          clear hlt
          cases hok : Coin.okB (N + T) with
          | false =>
            have HR : Hid (∀ W', RateOut w W' t evs (sumsO evs) (.slice none 0 0) 6) := hide (fun W' => .inr (.inl ⟨by rw [unhide HK, unhide HV]; rfl, by rw [unhide HUS, unhide HRB]; exact hok, rfl, rfl⟩))
            gi_wp2_with (fail)
            obtain ⟨g4, g5⟩ := set2 (v := .slice none 0 0) (e := .iface 84 (.int .i64 6)) d4 d5
            have hKO := (KeepsOthers.setCell w8 ⟨w.heap.size, 0, none⟩ (.slice none 0 0)).trans (KeepsOthers.setCell _ ⟨w.heap.size + 1, 0, none⟩ (.iface 84 (.int .i64 6)))
            have hbx := ((unhide HBZ).setCell (p := ⟨w.heap.size, 0, none⟩) (Nat.le_refl _) (.slice none 0 0)).setCell (p := ⟨w.heap.size + 1, 0, none⟩) (by simp) (.iface 84 (.int .i64 6))
            have x2 := hKO.same D2 _ (unhide HE2) rfl
            have x1 := hKO.same D _ (unhide HE1) rfl
            generalize (w8.setCell ⟨w.heap.size, 0, none⟩ (.slice none 0 0)).setCell ⟨w.heap.size + 1, 0, none⟩ (.iface 84 (.int .i64 6)) = X at *
            obtain ⟨y1, y4, y5, yb⟩ := take2 (w := w) (D := D) (D2 := D2) (by omega) (by omega) x1 x2 g4 g5 hbx
            refine ⟨by simp, .inl ⟨_, _, rfl, run_takeDeferred x2, ?_⟩⟩
            refine ⟨by simp, .inl ⟨_, _, rfl, run_takeDeferred y1, ?_⟩⟩
            refine ⟨.tuple #[.slice none 0 0, .iface 84 (.int .i64 6)], ?_, _, 6, rfl, unhide HR _, yb⟩
            simp [results, Tryz.results27, go_sem, y4, y5]
          | true =>
            gi_wp2_with (fail)
            obtain ⟨g4, g5⟩ := set2 (v := .slice (some ⟨w2.heap.size, 0, none⟩) t.length t.length) (e := .nilIface) d4 d5
            have hKO := (KeepsOthers.setCell w8 ⟨w.heap.size, 0, none⟩ (.slice (some ⟨w2.heap.size, 0, none⟩) t.length t.length)).trans (KeepsOthers.setCell _ ⟨w.heap.size + 1, 0, none⟩ .nilIface)
            have hbx := ((unhide HBZ).setCell (p := ⟨w.heap.size, 0, none⟩) (Nat.le_refl _) (.slice (some ⟨w2.heap.size, 0, none⟩) t.length t.length)).setCell (p := ⟨w.heap.size + 1, 0, none⟩) (by simp) .nilIface
            have x2 := hKO.same D2 _ (unhide HE2) rfl
            have x1 := hKO.same D _ (unhide HE1) rfl
            have hRX : 0 < t.length → ROwn ((w8.setCell ⟨w.heap.size, 0, none⟩ (.slice (some ⟨w2.heap.size, 0, none⟩) t.length t.length)).setCell ⟨w.heap.size + 1, 0, none⟩ .nilIface) w2.heap.size (rated us t) := fun h0 => rown_other (rown_other ((unhide HRO h0).kept (unhide HB8)) (by omega) _ _) (by omega) _ _
            generalize (w8.setCell ⟨w.heap.size, 0, none⟩ (.slice (some ⟨w2.heap.size, 0, none⟩) t.length t.length)).setCell ⟨w.heap.size + 1, 0, none⟩ .nilIface = X at *
            obtain ⟨y1, y4, y5, yb⟩ := take2 (w := w) (D := D) (D2 := D2) (by omega) (by omega) x1 x2 g4 g5 hbx
            refine ⟨by simp, .inl ⟨_, _, rfl, run_takeDeferred x2, ?_⟩⟩
            refine ⟨by simp, .inl ⟨_, _, rfl, run_takeDeferred y1, ?_⟩⟩
            refine ⟨.tuple #[.slice (some ⟨w2.heap.size, 0, none⟩) t.length t.length, .nilIface], ?_, _, 0, rfl, .inr (.inr ⟨by rw [unhide HK, unhide HV]; rfl, by rw [unhide HUS, unhide HRB]; exact hok, ?_, rfl⟩), yb⟩
            · simp [results, Tryz.results27, go_sem, y4, y5]
            · rw [unhide HUS]
              by_cases h0 : t.length = 0
              · exact .inl ⟨List.length_eq_zero_iff.1 ((unhide HRL).trans h0), _, _, by rw [h0]⟩
              · refine .inr ⟨w2.heap.size, t.length, by rw [unhide HRL], ⟨by omega, by rw [unhide HRL]; exact Nat.le_refl _⟩, ?_⟩
                have hp : 0 < (rated us t).length := by have := unhide HRL; omega
                exact rown_keptR (rown_keptR (hRX (by omega)) hp (grownBy_putObj' X D2 (.deferred none)) (fun r e => by cases e; exact ⟨_, x2, rfl⟩)) hp (grownBy_putObj' _ D (.deferred none)) (fun r e => by cases e; exact ⟨_, y1, rfl⟩)
        case stop2 =>
          rintro D2 k W' hD2 ⟨⟨⟨m, hm, htd⟩, a4, a5, h9⟩, hB⟩ hK2
          have HR : Hid (∀ W', RateOut w W' t evs (sumsO evs) (.slice none 0 0) 6) := hide (fun W' => .inr (.inl ⟨by rw [unhide HK, unhide HV]; rfl, by rw [unhide HUS]; exact rateB_told (allTold_no hm htd), rfl, rfl⟩))
          obtain ⟨y1, y4, y5, yb⟩ := take2 (w := w) (D := D) (D2 := D2) (by omega) (by omega) h9 hK2 a4 a5 hB
          have HK2' := hide hK2
          clear hm htd h9 hK2 hB a4 a5 HJ0
          gi_wp2_with (fail)
          refine ⟨by simp, .inl ⟨_, _, rfl, run_takeDeferred (unhide HK2'), ?_⟩⟩
          refine ⟨by simp, .inl ⟨_, _, rfl, run_takeDeferred y1, ?_⟩⟩
          refine ⟨.tuple #[.slice none 0 0, .iface 84 (.int .i64 6)], ?_, _, 6, rfl, unhide HR _, yb⟩
          simp [results, Tryz.results27, go_sem, y4, y5]
      case stop =>
        rintro D c pre W hD hpre ⟨⟨rfl, ⟨x, hx, hx2⟩, a4, a5⟩, hB⟩ hK2
        clear hL0
        have HKD := hide hK2
        have HB := hide hB
        have HA := hide hx
        have hA4 := cell_kept a4 (grownBy_putObj' _ D (.deferred none)) (fun r e => by cases e; exact ⟨_, hK2, rfl⟩)
        have hA5 := cell_kept a5 (grownBy_putObj' _ D (.deferred none)) (fun r e => by cases e; exact ⟨_, hK2, rfl⟩)
        have HR : Hid (∀ W', RateOut w W' t evs (sumsO evs) (.slice none 0 0) 6) := hide (fun W' => by
          obtain ⟨post, hpost⟩ := hpre
          have hm : x ∈ seqY us t t.length := by rw [← hpost]; exact List.mem_append_left _ hx
          unfold seqY at hm
          rw [List.mem_map] at hm
          obtain ⟨j, hj, rfl⟩ := hm
          refine .inr (.inl ⟨by rw [unhide HK, unhide HV]; rfl, ?_, rfl, rfl⟩)
          rw [unhide HUS]
          exact rateB_no (by simpa using hj) hx2)
        clear hx hx2 hpre hK2 hB a4 a5
        gi_wp2_with (fail)
        refine ⟨by simp, .inl ⟨_, _, rfl, run_takeDeferred (unhide HKD), ?_⟩⟩
        refine ⟨.tuple #[.slice none 0 0, .iface 84 (.int .i64 6)], ?_, _, 6, rfl, unhide HR _, (unhide HB).trans (belowK_b (w := w) (Nat.le_refl _) W D _ _ (by omega) (unhide HKD) rfl rfl)⟩
        simp [results, Tryz.results27, go_sem, hA4, hA5]
end Go.Proofs.YtnchgeiinkaefaaGreatDoor.Bill
end

section
/-
  impl.BillRate.
-/
namespace Go.Proofs.YtnchgeiinkaefaaGreatDoor.Bill
set_option linter.unusedVariables false
open Go.RowKit Evs Go.Shelf
open BRow (R R0 RC RR ROwn RN)
open Uses (U)
open Sums (sumsO)
open Rule (EnvR)
open ErrA (rty codeOf_nil codeOf_code)

theorem RateOut.kept {w w1 w2 : World} {t evs : List E} {us : List U} {v : Value} {c : Int} (h : RateOut w w1 t evs us v c) (hb : Below w1.heap.size w1 w2) : RateOut w w2 t evs us v c := by
  rcases h with h | h | ⟨h1, h2, h3, h4⟩
  · exact .inl h
  · exact .inr (.inl h)
  · refine .inr (.inr ⟨h1, h2, ?_, h4⟩)
    rcases h3 with h | ⟨b, cap, e, hc, ho⟩
    · exact .inl h
    · exact .inr ⟨b, cap, e, hc, ho.kept hb⟩

/-- the code of an error -/
theorem codeOfI (c : Int) (w : World) (he : w.cell? ⟨0, 0, none⟩ = some (rty 62)) (hel : 0 < w.heap.size) : Calls Tryz.prog 28 #[errV c] w fun x w' => x = .returned (.int .i64 c) ∧ Below w.heap.size w w' := by
  unfold errV
  by_cases h : c = 0
  · subst h
    exact codeOf_nil w
  · rw [if_neg h]
    exact codeOf_code c w he hel

set_option maxRecDepth 20000 in
set_option maxHeartbeats 1000000 in
theorem billRateI (tv ev : Value) (t evs : List E) (w : World) (hT : ER w tv t) (hE : ER w ev evs) (ht : t.length ≤ 1048576) (hts : ∀ u ∈ t, u.1.size ≤ maxLen ∧ u.2.1.size ≤ maxLen) (he : evs.length ≤ 1048576) (hes : ∀ u ∈ evs, u.1.size ≤ maxLen ∧ u.2.1.size ≤ maxLen) (hEn : EnvR w) (hg : w.cell? ⟨0, 0, none⟩ = some (rty 62)) (hgl : 0 < w.heap.size) :
    Calls Tryz.prog 9 #[tv, ev] w fun x w' => ∃ v c, x = .returned (.tuple #[v, .int .i64 c]) ∧ RateOut w w' t evs (sumsO evs) v c ∧ Below w.heap.size w w' := by
  obtain ⟨ta, tc, rfl⟩ := hT.slice
  obtain ⟨ea, ec, rfl⟩ := hE.slice
  have HT := hide hT
  have HE := hide hE
  have HTS := hide hts
  have HES := hide hes
  have HEN := hide hEn
  have HG := hide hg
  clear hT hE hts hes hEn hg
  go_enter Tryz.func9, Tryz.ntmps9
  go_wp2_with (fail)
  refine (rateRowsI _ _ t evs w (unhide HT) (unhide HE) ht (unhide HTS) he (unhide HES) (unhide HEN)).mono ?_
  rintro x w1 ⟨v, c, rfl, hO, hb⟩
  have HO := hide hO
  have HB := hide hb
  have hco := codeOfI c w1 ((hb.cell (p := ⟨0, 0, none⟩) hgl).trans (unhide HG)) (Nat.lt_of_lt_of_le hgl hb.size)
  generalize errV c = e at *
  have HC := hide hco
  clear hO hb hco
  go_wp2_with (fail)
  refine (unhide HC).mono ?_
  rintro x w2 ⟨rfl, hb2⟩
  have HO2 := hide ((unhide HO).kept hb2)
  have HB2 := hide (below_trans (unhide HB) hb2)
  clear hb2
  go_wp2_with (fail)
  go_ret2
  exact ⟨_, _, rfl, unhide HO2, unhide HB2⟩
end Go.Proofs.YtnchgeiinkaefaaGreatDoor.Bill
end

section
/-
  The laws' own marks on slices of tariffs' lines: markBillLineS.
-/
namespace Go.Proofs.YtnchgeiinkaefaaGreatDoor.Evs
set_option linter.unusedVariables false
open Go.RowKit RegIn

set_option maxHeartbeats 1000000 in
/-- markBillLineS -/
theorem markLins (B : Nat) (v : Value) (l : List E) (k : Nat) (w : World) (h : EN B w v l) (hl : l.length ≤ 1048576) (h0 : 1 ≤ k) (h1 : k ≤ 100000000) :
    Calls Tryz.prog 13 #[v, .int .i64 (k : Int)] w fun e w' => e = .returned (.int .i64 ((k + 3 * l.length : Nat) : Int)) ∧ EN B w' v (marksE k l.length) ∧ ∃ r, w.grownBy w' r ∧ ∀ b, r = some b → v.ownBlock = some b ∧ l ≠ [] ∧ B ≤ b := by
  rcases h with ⟨rfl, a, c, rfl⟩ | ⟨b, cap, rfl, hB, hO⟩
  · go_enter Tryz.func13, Tryz.ntmps13
    go_wp2
    refine wp_loop_rounds 1 ?_
    rw [rounds_succ]
    go_wp2
    go_ret
    exact ⟨by simp, .inl ⟨rfl, _, _, rfl⟩, none, grow0 _ _, fun b hb => by simp at hb⟩
  · by_cases hne : l = []
    · subst hne
      clear hO
      go_enter Tryz.func13, Tryz.ntmps13
      go_wp2
      refine wp_loop_rounds 1 ?_
      rw [rounds_succ]
      go_wp2
      go_ret
      exact ⟨by simp, .inl ⟨rfl, _, _, rfl⟩, none, grow0 _ _, fun b hb => by simp at hb⟩
    have HO := hide hO
    clear hO
    go_enter Tryz.func13, Tryz.ntmps13
    go_wp2
    go_loopw [1, 5] (fun t i wr => ∃ j : Nat, j ≤ l.length ∧ i = .int .i64 j ∧ t = .int .i64 ((k + 3 * j : Nat) : Int) ∧ Hid (EOwn wr b (marksE k j ++ l.drop j)) ∧ Hid (w.grownBy wr (some b))) (fun _ i _ => l.length - (intOf i).toNat)
    case atStart => exact ⟨0, Nat.zero_le _, rfl, by simp, by show EOwn _ _ _; simpa [marksE] using unhide HO, hide (grow0 _ _)⟩
    case round =>
      obtain ⟨j, hj, rfl, rfl, hd, hg⟩ := hrel
      by_cases hlt : j < l.length
      · have hj2 : j < (marksE k j ++ l.drop j).length := by rw [List.length_append, marksE_len, List.length_drop]; omega
        have HS := hide (marksE_step k l j hlt)
        generalize marksE k j ++ l.drop j = L at *
        have i1 : (0 : Int) ≤ (j : Int) := by omega
        have i2 : (j : Int) < (l.length : Int) := by omega
        go_wp2_with (fail)
        refine (markT (k + 3 * j) wr (by omega) (by omega)).mono ?_
        rintro e w1 ⟨rfl, hb1⟩
        have ho1 := (unhide hd).kept hb1
        obtain ⟨c0, _, _⟩ := ho1.1.2 j hj2
        have f0 := ho1.2 (j * 3)
        rw [Nat.zero_add] at c0
        have ho2 := ho1.setA hj2 (mt (k + 3 * j))
        generalize hy0 : L.getD j E0 = y0 at *
        have O2 := hide ho2
        have G2 := hide (growT (unhide hg) (growT (growB hb1 (some b)) (growS w1 b (j * 3) (.string (mt (k + 3 * j))))))
        clear ho1 ho2 hb1 hd hg
        generalize mt (k + 3 * j) = m1 at *
        go_wp2_with (fail)
        have e1 : ((k + 3 * j : Nat) : Int) + 1 = ((k + 3 * j + 1 : Nat) : Int) := by omega
        refine (markT (k + 3 * j + 1) _ (by omega) (by omega)).mono ?_
        rintro e w2 ⟨rfl, hb2⟩
        have ho3 := (unhide O2).kept hb2
        have hj3 : j < (L.set j (m1, y0.2.1, y0.2.2)).length := by simpa using hj2
        obtain ⟨_, c1, _⟩ := ho3.1.2 j hj3
        have f1 := ho3.2 (j * 3 + 1)
        rw [Nat.zero_add] at c1
        have ho4 := ho3.setB hj3 (mt (k + 3 * j + 1))
        rw [getD_set hj2, List.set_set] at ho4
        have hj4 : j < (L.set j (m1, mt (k + 3 * j + 1), y0.2.2)).length := by simpa using hj2
        obtain ⟨_, _, c2⟩ := ho4.1.2 j hj4
        have f2 := ho4.2 (j * 3 + 2)
        rw [Nat.zero_add] at c2
        have ho5 := ho4.setQ hj4 ((k + 3 * j + 2 : Nat) : Int)
        rw [getD_set hj2, List.set_set] at ho5
        have O5 := hide ho5
        have G4 := hide (growT (unhide G2) (growT (growB hb2 (some b)) (growS w2 b (j * 3 + 1) (.string (mt (k + 3 * j + 1))))))
        have G5 := hide (growT (unhide G4) (growS _ b (j * 3 + 2) (.int .i64 ((k + 3 * j + 2 : Nat) : Int))))
        have e3 : ((k + 3 * j + 1 : Nat) : Int) + 1 = ((k + 3 * j + 2 : Nat) : Int) := by omega
        clear ho3 ho4 ho5 hb2 O2 G2 G4 hj3 hj4
        generalize mt (k + 3 * j + 1) = m2 at *
        rw [unhide HS] at O5
        go_wp2
        exact ⟨⟨j + 1, by omega, by go_num, by congr 1, O5, G5⟩, by simp [intOf]; omega⟩
      · obtain rfl : j = l.length := by omega
        go_wp2
        go_ret
        refine ⟨rfl, .inr ⟨b, cap, by rw [marksE_len], ⟨hB.1, by rw [marksE_len]; exact hB.2⟩, ?_⟩, some b, unhide hg, fun b' hb' => by cases hb'; exact ⟨rfl, hne, hB.1⟩⟩
        have := unhide hd
        simpa using this
end Go.Proofs.YtnchgeiinkaefaaGreatDoor.Evs
end
