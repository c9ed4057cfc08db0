/-
  The law FnUseSums: the sums are together all of the events, each meter once, ascending; a correction turns the sum of its meter by as much.
-/
import Derived.Test.YthhkjbhkginecaaLawBack
import Derived.Test.YthhkjbhkginecaaSumI
import Derived.Test.YthhkjbhkginecaaSumS
import Derived.Test.YthhkjbhkginecaaSumM2
namespace Go.Proofs.Ythhkjbhkginecaa.Sums
set_option linter.unusedVariables false
open Go.RowKit Go.Maps MapM
open Uses (U U0 UOwn UC UR ofV)
open Evs (E E0 hide unhide below_trans below_drewN' ER EC okB fixO fixD)

theorem sums_nil {l : List E} (h : sumsO l = []) : l = [] ∨ okB l = false := by
  cases hok : okB l with
  | false => exact .inr rfl
  | true =>
    left
    unfold sumsO at h
    rw [if_pos hok] at h
    by_cases h0 : l = []
    · exact h0
    · have hl : 0 < l.length := List.length_pos_iff.2 h0
      have hs := sums_step (l := l) (k := l.length - 1) (by omega)
      have e : l.length - 1 + 1 = l.length := by omega
      rw [e, List.take_length, h] at hs
      have : (addU (sums (l.take (l.length - 1))) (l.getD (l.length - 1) E0).2.1 (l.getD (l.length - 1) E0).2.2).length ≠ 0 := by
        unfold addU
        split
        · rename_i hh
          obtain ⟨hp, _⟩ := has_yes (sums_asc l _ (by omega)) hh
          rw [List.length_set]; omega
        · simp
      rw [← hs] at this
      simp at this
theorem fixO_len {l : List E} {id : ByteArray} {q : Int} : (fixO l id q).length ≤ l.length := by
  unfold Evs.fixO
  split
  · rw [Evs.fixL_len]; exact Nat.le_refl _
  · simp
theorem fixO_size {l : List E} {id : ByteArray} {q : Int} (hs : ∀ u ∈ l, u.1.size ≤ maxLen ∧ u.2.1.size ≤ maxLen) : ∀ u ∈ fixO l id q, u.1.size ≤ maxLen ∧ u.2.1.size ≤ maxLen := by
  unfold Evs.fixO
  split
  · rename_i hok
    exact Evs.fixL_size (Evs.okB_asc hok) hs
  · simp
theorem fixD_bad {l : List E} {id : ByteArray} {q : Int} (h : okB l = false) : fixD l id q = 4 := by unfold Evs.fixD; rw [h]; rfl
theorem fixD_nil {id : ByteArray} {q : Int} : (fixD [] id q == 0) = false := by
  rw [beq_eq_false_iff_ne]
  intro h
  obtain ⟨k, hk, _⟩ := Evs.fix_back h
  simp at hk

set_option maxHeartbeats 8000000 in
set_option maxRecDepth 100000 in
theorem useSumsLaw (a0 : Option Addr) (len0 cap0 : Nat) (w : World) (hB : Draw.Bytes w a0 len0 cap0) :
    Calls Try.prog 6 #[.slice a0 len0 cap0] w fun e w' => e = .returned (.bool true) ∧ Below w.heap.size w w' := by
  by_cases hl : 1048576 < len0
  · go_enter Try.func6, Try.ntmps6
    go_wp2
    go_ret
    exact ⟨rfl, Below.refl _ _⟩
  go_enter Try.func6, Try.ntmps6
  go_wp2_with fail
  refine (Draw.drawFix a0 len0 cap0 w hB).mono ?_
  rintro e w1 ⟨v, id, q, rfl, l, hl25, hE, hgd, hid, hq, hb1⟩
  have E1 := hide hE
  have B1 := hide hb1
  have HS : Hid (∀ u ∈ l, u.1.size ≤ maxLen ∧ u.2.1.size ≤ maxLen) := hide (fun u hu => (hgd u hu).size)
  have HQL : Hid (∀ u ∈ l, -1 ≤ u.2.2 ∧ u.2.2 ≤ 1000000001) := hide (fun u hu => (hgd u hu).2.2)
  have hid' : id.size ≤ maxLen := by unfold Draw.isW9 at hid; unfold maxLen; omega
  obtain ⟨q0, q1⟩ := hq
  clear hB hl hE hb1 hgd hid
  go_wp2_with fail
  refine (Evs.useFixI v l id q _ (unhide E1).er (by omega) (unhide HS) hid').mono ?_
  rintro e w2 ⟨gv, rfl, n2, hb2⟩
  have E2 := hide ((unhide E1).kept hb2)
  have N2 := hide n2
  have B2 := hide (below_trans (unhide B1) hb2)
  clear E1 n2 hb2 B1
  go_wp2_with fail
  refine (Evs.useFixS v l id q _ (unhide E2).er (by omega) (unhide HS)).mono ?_
  rintro e w3 ⟨sv, rfl, n3, hb3⟩
  have E3 := hide ((unhide E2).kept hb3)
  have N3 := hide ((unhide N2).kept hb3)
  have M3 := hide n3
  have B3 := hide (below_trans (unhide B2) hb3)
  clear E2 N2 hb3 B2 n3
  have hx : (fixD l id q != fixD l id q) = false := by simp
  have hlO := fixO_len (l := l) (id := id) (q := q)
  have HSO := hide (fixO_size (id := id) (q := q) (unhide HS))
  generalize hDD : fixD l id q = D at *
  have HD := hide hDD
  generalize hOO : fixO l id q = O at *
  have HO := hide hOO
  clear hDD hOO
  go_wp2_with fail
  refine (Evs.wuSame gv sv O _ (unhide N3).er (unhide M3).er (by omega)).mono ?_
  rintro e w4 ⟨rfl, hb4⟩
  have E4 := hide ((unhide E3).kept hb4)
  have N4 := hide ((unhide N3).kept hb4)
  have B4 := hide (below_trans (unhide B3) hb4)
  clear E3 N3 hb4 B3 M3
  go_wp2_with fail
  refine (useSumsI v l _ (unhide E4).er (by omega) (unhide HS)).mono ?_
  rintro e w5 ⟨av, rfl, n5, hb5⟩
  have E5 := hide ((unhide E4).kept hb5)
  have N5 := hide ((unhide N4).kept hb5)
  have A5 := hide n5
  have B5 := hide (below_trans (unhide B4) hb5)
  clear E4 N4 hb5 B4 n5
  go_wp2_with fail
  refine (useSumsI gv O _ (unhide N5).er (by omega) (unhide HSO)).mono ?_
  rintro e w6 ⟨bv, rfl, n6, hb6⟩
  have E6 := hide ((unhide E5).kept hb6)
  have A6 := hide ((unhide A5).kept hb6)
  have C6 := hide n6
  have B6 := hide (below_trans (unhide B5) hb6)
  clear E5 N5 hb6 B5 n6 A5
  go_wp2_with fail
  refine (useSumsS v l _ (unhide E6).er (by omega) (unhide HS)).mono ?_
  rintro e w7 ⟨wv, rfl, n7, hb7⟩
  have E7 := hide ((unhide E6).kept hb7)
  have A7 := hide ((unhide A6).kept hb7).ur
  have C7 := hide ((unhide C6).kept hb7).ur
  have D7 := hide n7.ur
  have B7 := hide (below_trans (unhide B6) hb7)
  clear E6 A6 C6 n7 hb7 B6
  by_cases hnil : l = []
  · subst hnil
    have hS : sumsO ([] : List E) = [] := by unfold sumsO; split <;> rfl
    have hDb : (D == 0) = false := by rw [← unhide HD]; exact fixD_nil
    rw [hS] at A7 D7
    obtain ⟨va, vc, rfl⟩ : ∃ a c, v = .slice a 0 c := by
      rcases (unhide E7) with ⟨_, h⟩ | ⟨g, cp, h, _⟩
      · exact h
      · exact ⟨_, _, h⟩
    obtain ⟨aa, ac, rfl⟩ : ∃ a c, av = .slice a 0 c := by
      rcases (unhide A7) with ⟨_, h⟩ | ⟨g, o, cp, h, _⟩
      · exact h
      · exact ⟨_, _, h⟩
    obtain ⟨da, dc, rfl⟩ : ∃ a c, wv = .slice a 0 c := by
      rcases (unhide D7) with ⟨_, h⟩ | ⟨g, o, cp, h, _⟩
      · exact h
      · exact ⟨_, _, h⟩
    clear hS E7 A7 D7 C7 hlO HSO HS HQL hx
    go_wp2
    refine wp_loop_rounds 1 ?_
    rw [rounds_succ]
    go_wp2
    refine wp_loop_rounds 1 ?_
    rw [rounds_succ]
    go_wp2
    refine wp_loop_rounds 1 ?_
    rw [rounds_succ]
    go_wp2
    go_ret
    exact ⟨rfl, unhide B7⟩
  cases hok : okB l with
  | false =>
    have hS : sumsO l = [] := by unfold sumsO; rw [hok]; rfl
    have hD4 : D = 4 := (unhide HD).symm.trans (fixD_bad hok)
    subst hD4
    rw [hS] at A7 D7
    obtain ⟨va, vc, rfl⟩ := (unhide E7).er.slice
    obtain ⟨aa, ac, rfl⟩ : ∃ a c, av = .slice a 0 c := by
      rcases (unhide A7) with ⟨_, h⟩ | ⟨g, o, cp, h, _⟩
      · exact h
      · exact ⟨_, _, h⟩
    obtain ⟨da, dc, rfl⟩ : ∃ a c, wv = .slice a 0 c := by
      rcases (unhide D7) with ⟨_, h⟩ | ⟨g, o, cp, h, _⟩
      · exact h
      · exact ⟨_, _, h⟩
    have hl0 : (0 : Int) < (l.length : Int) := by have := List.length_pos_iff.2 hnil; omega
    clear hS A7 D7 C7 hlO HSO HQL hx hnil
    go_wp2
    refine wp_loop_rounds 1 ?_
    rw [rounds_succ]
    go_wp2_with fail
    refine (Evs.okS _ l _ (unhide E7).er (by omega) (unhide HS)).mono ?_
    rintro e w8 ⟨rfl, hb8⟩
    rw [hok]
    have B8 := hide (below_trans (unhide B7) hb8)
    clear hb8
    go_wp2
    refine wp_loop_rounds 1 ?_
    rw [rounds_succ]
    go_wp2
    refine wp_loop_rounds 1 ?_
    rw [rounds_succ]
    go_wp2
    go_ret
    exact ⟨rfl, unhide B8⟩
  | true =>
    have hS : sumsO l = sums l := by unfold sumsO; rw [if_pos hok]
    have hS0 : sums l ≠ [] := fun h => by
      rcases sums_nil (hS.trans h) with h | h
      · exact hnil h
      · rw [hok] at h; simp at h
    rw [hS] at A7 D7
    rcases (unhide E7) with ⟨h, _⟩ | ⟨g, cp, rfl, _, hO7⟩
    · exact absurd h hnil
    rcases (unhide A7) with ⟨h, _⟩ | ⟨ga, oa, ca, rfl, hA7⟩
    · exact absurd h hS0
    rcases (unhide D7) with ⟨h, _⟩ | ⟨gd, od, cd, rfl, hD7⟩
    · exact absurd h hS0
    have CV := hide hO7.1
    have CA := hide hA7
    have CD := hide hD7
    have HTB := hide (totE_bound l (okB_qty hok))
    have HSB := hide (sums_bound' hok)
    have HSA := hide (sums_asc' l)
    have HTA := hide (tot_all l)
    have hSl := sums_len' l
    have hl20 := Evs.okB_len hok
    have HOK := hide hok
    have HQ2 := hide (okB_qty hok)
    have HUB := hide (tot_bound (sums l) 20000000000 (by omega) (sums_bound' hok))
    clear hO7 hA7 hD7 hS hS0
    generalize hSE : sums l = S at *
    have HSE := hide hSE
    clear hSE
    go_wp2
    go_loopw [13, 14] (fun ts ti wr => ∃ i : Nat, i ≤ l.length ∧ ti = .int .i64 i ∧ ts = .int .i64 (totE one (l.take i)) ∧ Hid (Below w7.heap.size w7 wr)) (fun _ i _ => l.length - (intOf i).toNat)
    case atStart => exact ⟨0, Nat.zero_le _, rfl, by simp [totE], hide (Below.refl _ _)⟩
    case round =>
      obtain ⟨i, hi, rfl, rfl, hb⟩ := hrel
      by_cases hlt : i < l.length
      · have i1 : (0 : Int) ≤ (i : Int) := by omega
        have i2 : (i : Int) < (l.length : Int) := by omega
        have HST := hide (totE_step hlt)
        obtain ⟨t0, t1⟩ := unhide HTB i hi
        obtain ⟨x0, x1⟩ : 0 ≤ (l.getD i E0).2.2 ∧ (l.getD i E0).2.2 ≤ 1000000000 := unhide HQ2 _ (by simp [List.getD, hlt])
        generalize totE one (l.take i) = T at *
        go_wp2_with fail
        refine (Evs.okS _ l _ ((unhide E7).kept (unhide hb)).er (by omega) (unhide HS)).mono ?_
        rintro e w8 ⟨rfl, hb8⟩
        rw [unhide HOK]
        have B8 := hide (below_trans (unhide hb) hb8)
        obtain ⟨_, _, c2⟩ := ((unhide CV).kept (unhide B8)).2 i hlt
        rw [Nat.zero_add] at c2
        clear hb hb8
        generalize (l.getD i E0).2.2 = x at *
        go_wp2
        exact ⟨⟨i + 1, by omega, by go_num, by rw [unhide HST], B8⟩, by simp [intOf]; omega⟩
      · obtain rfl : i = l.length := by omega
        obtain ⟨T0, T1⟩ := unhide HTB _ hi
        rw [List.take_length] at T0 T1 ⊢
        clear HTB
        generalize totE one l = T at *
        go_wp2_with fail
        go_loopw [13, 15] (fun ts ti wr2 => ∃ i : Nat, i ≤ S.length ∧ ti = .int .i64 i ∧ ts = .int .i64 (T - tot one (S.take i)) ∧ Hid (Below w7.heap.size w7 wr2)) (fun _ i _ => S.length - (intOf i).toNat)
        case atStart => exact ⟨0, Nat.zero_le _, rfl, by simp [tot], hb⟩
        case round =>
          obtain ⟨i, hi, rfl, rfl, hb2⟩ := hrel
          clear hb
          obtain ⟨t0, t1⟩ := unhide HUB i hi
          by_cases hlt2 : i < S.length
          · have i1 : (0 : Int) ≤ (i : Int) := by omega
            have i2 : (i : Int) < (S.length : Int) := by omega
            have HST := hide (tot_step hlt2)
            obtain ⟨x0, x1⟩ : 0 ≤ (S.getD i U0).2 ∧ (S.getD i U0).2 ≤ 20000000000 := unhide HSB _ (by simp [List.getD, hlt2])
            obtain ⟨c0, c1⟩ := ((unhide CA).kept (unhide hb2)).2 i hlt2
            obtain ⟨d0, d1⟩ := ((unhide CD).kept (unhide hb2)).2 i hlt2
            generalize tot one (S.take i) = Z at *
            by_cases hi0 : i = 0
            · subst hi0
              simp only [Nat.zero_mul, Nat.add_zero] at c0 c1 d0 d1
              generalize S.getD 0 U0 = x at *
              obtain ⟨sx, qx⟩ := x
              simp only at c0 c1 d0 d1 x0 x1
              go_wp2
              go_quiet (fail)
              go_wp2
              exact ⟨⟨0 + 1, by omega, rfl, by rw [unhide HST]; congr 1; omega, hide (below_drewN' (unhide hb2) _)⟩, by simp [intOf]; omega⟩
            · have kn : 0 < i := by omega
              have kk : (0 : Int) < (i : Int) := by omega
              have j1 : (0 : Int) ≤ (i : Int) - 1 := by omega
              have j2 : (i : Int) - 1 < (S.length : Int) := by omega
              have hwr : IntKind.i64.wrap ((i : Int) - 1) = (i : Int) - 1 := IntWalk.i64_in _ ⟨by omega, by omega⟩
              have htn : ((i : Int) - 1).toNat = i - 1 := by omega
              obtain ⟨e0, _⟩ := ((unhide CA).kept (unhide hb2)).2 (i - 1) (by omega)
              have hlt3 := ltS_asc (unhide HSA) (i := i - 1) (by omega)
              have ei : i - 1 + 1 = i := by omega
              rw [ei] at hlt3
              have hcmp := Evs.ltS_total (S.getD (i - 1) U0).1 (S.getD i U0).1
              rw [hlt3] at hcmp
              simp only [Evs.ltS, Bool.not_true] at hcmp
              clear hlt3 ei
              generalize (S.getD (i - 1) U0).1 = sp at *
              generalize S.getD i U0 = x at *
              obtain ⟨sx, qx⟩ := x
              simp only at c0 c1 d0 d1 x0 x1 hcmp
              go_wp2
              go_quiet (fail)
              go_wp2
              exact ⟨⟨i + 1, by omega, by go_num, by rw [unhide HST]; congr 1; omega, hide (below_drewN' (unhide hb2) _)⟩, by simp [intOf]; omega⟩
          · obtain rfl : i = S.length := by omega
            rw [List.take_length] at *
            have hz : T - tot one S = 0 := by rw [unhide HTA]; omega
            rw [hz]
            have hn : ((S.length : Int) != (S.length : Int)) = false := by simp
            clear hz t0 t1
            by_cases hD : D = 0
            · subst hD
              obtain ⟨k, hk, m, was, hlk, hne, hO, hD2, hO2⟩ := Evs.fix_back (unhide HD)
              have hO' : O = l.set k (id, m, q) := (unhide HO).symm.trans hO
              have hokO : okB O = true := by
                rw [hO']
                cases h : okB (l.set k (id, m, q)) with
                | true => rfl
                | false => rw [fixD_bad h] at hD2; simp at hD2
              have hSO : sumsO O = sums O := by unfold sumsO; rw [if_pos hokO]
              have HOF : Hid (ofV m (sums O) - ofV m S = q - was) := hide (by rw [hO', ← unhide HSE]; exact of_fixed hk hlk)
              have HBO : Hid (∀ mm, 0 ≤ ofV mm (sums O) ∧ ofV mm (sums O) ≤ 20000000000) := hide (fun mm => ofV_bound (by omega) (sums_bound' hokO))
              have HBS : Hid (∀ mm, 0 ≤ ofV mm S ∧ ofV mm S ≤ 20000000000) := hide (fun mm => ofV_bound (by omega) (unhide HSB))
              rw [hSO] at C7
              have hSOl : (sums O).length ≤ 25 := Nat.le_trans (sums_len' O) (by omega)
              have HLK := hide hlk
              have HWB : Hid (-1 ≤ was ∧ was ≤ 1000000001) := hide (by have := unhide HQL l[k] (List.getElem_mem hk); rw [hlk] at this; exact this)
              clear hlk hO hD2 hO2 hO' hokO hSO
              generalize sums O = SO at *
              go_wp2_with fail
              go_loopw [16] (fun ti wr3 => ∃ i : Nat, i ≤ l.length ∧ ti = .int .i64 i ∧ Hid (Below w7.heap.size w7 wr3)) (fun i _ => l.length - (intOf i).toNat)
              case atStart => exact ⟨0, Nat.zero_le _, rfl, hb2⟩
              case round =>
                obtain ⟨i, hi, rfl, hb3⟩ := hrel
                by_cases hlt3 : i < l.length
                · have i1 : (0 : Int) ≤ (i : Int) := by omega
                  have i2 : (i : Int) < (l.length : Int) := by omega
                  obtain ⟨_, c1, _⟩ := ((unhide CV).kept (unhide hb3)).2 i hlt3
                  rw [Nat.zero_add] at c1
                  obtain ⟨f0, f1⟩ := unhide HBO (l.getD i E0).2.1
                  obtain ⟨g0, g1⟩ := unhide HBS (l.getD i E0).2.1
                  have HX1 := hide (Uses.ofI bv SO (l.getD i E0).2.1 wr ((unhide C7).kept (unhide hb3)) (by omega))
                  have HX2 : Hid (∀ W, Below w7.heap.size w7 W → Calls Try.prog 24 #[.slice (some ⟨ga, oa, none⟩) S.length ca, .string (l.getD i E0).2.1] W fun e w' => e = .returned (.int .i64 (ofV (l.getD i E0).2.1 S)) ∧ Below W.heap.size W w') := hide (fun W hW => Uses.ofI _ S (l.getD i E0).2.1 W ((unhide A7).kept hW) (by omega))
                  have hcv : Hid (∀ W, Below w7.heap.size w7 W → W.cell? ⟨g, i * 3, none⟩ = some (.string (l.getD i E0).1) ∧ W.cell? ⟨g, i * 3 + 2, none⟩ = some (.int .i64 (l.getD i E0).2.2)) := hide (fun W hW => by
                    have := ((unhide CV).kept hW).2 i hlt3
                    rw [Nat.zero_add] at this
                    exact ⟨this.1, this.2.2⟩)
                  by_cases hik : i = k
                  · subst hik
                    have hgd : l.getD i E0 = (id, m, was) := by rw [← unhide HLK]; simp [List.getD, hlt3]
                    rw [hgd] at c1 f0 f1 g0 g1 HX1 HX2 hcv
                    dsimp only at c1 f0 f1 g0 g1 HX1 HX2 hcv
                    obtain ⟨w0, w0'⟩ := unhide HWB
                    have hoff : (ofV m SO - ofV m S != q - was) = false := by rw [unhide HOF]; simp
                    generalize ofV m SO = r1 at *
                    generalize ofV m S = r2 at *
                    have hidd : (id.toList == id.toList) = true := by simp
                    clear hgd
                    go_wp2_with fail
                    refine (unhide HX1).mono ?_
                    rintro e w8 ⟨rfl, hb8⟩
                    have B8 := hide (below_trans (unhide hb3) hb8)
                    clear hb8
                    go_wp2_with fail
                    refine (unhide HX2 _ (unhide B8)).mono ?_
                    rintro e w9 ⟨rfl, hb9⟩
                    have B9 := hide (below_trans (unhide B8) hb9)
                    obtain ⟨y0, y2⟩ := unhide hcv _ (unhide B9)
                    clear hb9
                    go_wp2
                    exact ⟨⟨i + 1, by omega, by go_num, B9⟩, by simp [intOf]; omega⟩
                  · have hidn : ((l.getD i E0).1.toList == id.toList) = false := by
                      rw [beq_eq_false_iff_ne]
                      intro e
                      have e2 : (l.getD i E0).1 = id := Uses.ext_toList e
                      have e3 : l[i].1 = l[k].1 := by rw [unhide HLK]; simpa [List.getD, hlt3] using e2
                      exact hik (id_once (Evs.okB_asc hok) hlt3 hk e3)
                    generalize l.getD i E0 = x at *
                    obtain ⟨xs, xm, xq⟩ := x
                    dsimp only at c1 f0 f1 g0 g1 HX1 HX2 hcv hidn
                    generalize ofV xm SO = r1 at *
                    generalize ofV xm S = r2 at *
                    go_wp2_with fail
                    refine (unhide HX1).mono ?_
                    rintro e w8 ⟨rfl, hb8⟩
                    have B8 := hide (below_trans (unhide hb3) hb8)
                    clear hb8
                    go_wp2_with fail
                    refine (unhide HX2 _ (unhide B8)).mono ?_
                    rintro e w9 ⟨rfl, hb9⟩
                    have B9 := hide (below_trans (unhide B8) hb9)
                    obtain ⟨y0, y2⟩ := unhide hcv _ (unhide B9)
                    clear hb9
                    go_wp2
                    exact ⟨⟨i + 1, by omega, by go_num, B9⟩, by simp [intOf]; omega⟩
                · obtain rfl : i = l.length := by omega
                  go_wp2
                  go_ret
                  exact ⟨rfl, below_trans (unhide B7) (unhide hb3)⟩
            · have hDb : (D == 0) = false := by simpa using hD
              go_wp2_with fail
              refine wp_loop_rounds 1 ?_
              rw [rounds_succ]
              have hl0 : (0 : Int) < (l.length : Int) := by have := List.length_pos_iff.2 hnil; omega
              go_wp2
              go_ret
              exact ⟨rfl, below_trans (unhide B7) (unhide hb2)⟩
end Go.Proofs.Ythhkjbhkginecaa.Sums
