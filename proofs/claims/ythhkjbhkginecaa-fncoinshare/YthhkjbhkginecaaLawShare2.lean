/-
  The law: drawn shares are together just the total, each within one unit of its due; who has no weight has nothing; the greater weight has no less; with all weights twice as great they are the same.
-/
import Derived.Test.YthhkjbhkginecaaLawShare
import Derived.Test.YthhkjbhkginecaaShMath2
import Derived.Test.YthhkjbhkginecaaDrawSh
namespace Go.Proofs.Ythhkjbhkginecaa.Share
set_option linter.unusedVariables false
open Go.RowKit Ints

theorem ok_of {T : Int} {ws : List Int} (h : okS T ws = true) : wgtB ws = true ∧ 0 ≤ T ∧ T ≤ 1000000000000000 := by
  unfold okS at h
  simp only [Bool.and_eq_true, decide_eq_true_eq] at h
  exact ⟨h.1, h.2.1, h.2.2⟩

theorem grown_d1 (w : World) (n : Nat) (o : Obj) (r : Option Nat) : w.grownBy ((w.drewN n).alloc o) r := by
  have h := World.grownBy_alloc (w.drewN n) o none
  exact ⟨h.os, h.tape, h.output, h.size, fun j hj _ => h.block j hj (by simp)⟩

set_option maxRecDepth 100000 in
set_option maxHeartbeats 6400000 in
theorem law2 (a : Option Addr) (len cap : Nat) (w : World) (h : Draw.Bytes w a len cap) :
    Calls Try.prog 3 #[.slice a len cap] w fun e w' => e = .returned (.bool true) ∧ Below w.heap.size w w' := by
  have hm : len ≤ 9223372036854775807 := Nat.le_trans h.1 h.2.1
  by_cases hl : 1048576 < len
  · clear h
    go_enter Try.func3, Try.ntmps3
    go_wp2
    go_ret
    exact ⟨rfl, Below.refl _ _⟩
  · go_enter Try.func3, Try.ntmps3
    go_wp2_with (fail)
    refine (Draw.drawShare a len cap w h).mono ?_
    rintro e W1 ⟨T, gw, n, cw, ws, rfl, _, hn, hn18, hcw, hgw, b1⟩
    subst hn
    have CW1 := hide hcw; have B1 := hide b1
    have IW : IR W1 (.slice (some ⟨gw, 0, none⟩) ws.length cw) ws := .inr ⟨gw, 0, cw, rfl, by omega, hcw⟩
    have IW1 := hide IW
    clear hcw b1 h hl hm IW
    go_wp2_with (fail)
    refine (ansI _ ws T W1 (unhide IW1)).mono ?_
    rintro e W2 ⟨u1, rfl, iu1, _, b2⟩
    have B2 := hide ((unhide B1).trans (b2.mono (unhide B1).size))
    have IW2 := hide (IR.keptB (unhide IW1) b2)
    have CW2 := hide ((unhide CW1).kept (below_grown b2 none) (by simp))
    have IU2 := hide iu1
    clear iu1 b2 IW1 CW1 B1
    go_wp2_with (fail)
    refine (ansS _ ws T W2 (unhide IW2)).mono ?_
    rintro e W3 ⟨u2, rfl, iu2, _, b3⟩
    have B3 := hide ((unhide B2).trans (b3.mono (unhide B2).size))
    have IU3 := hide (IR.keptB (unhide IU2) b3)
    have CW3 := hide ((unhide CW2).kept (below_grown b3 none) (by simp))
    have IS3 := hide iu2
    clear iu2 b3 IW2 CW2 IU2 B2
    cases hok : okS T ws
    · have e0 : outS T ws = [] := by unfold outS; rw [hok]; rfl
      have i1 := unhide IU3; have i2 := unhide IS3
      rw [e0] at i1 i2
      obtain ⟨a1, c1, rfl⟩ := slice_form i1
      obtain ⟨a2, c2, rfl⟩ := slice_form i2
      clear IU3 IS3 i1 i2 CW3 e0
      go_wp2_with (fail)
      go_ret
      exact ⟨rfl, unhide B3⟩
    · obtain ⟨hwb, hT, hT'⟩ := ok_of hok
      obtain ⟨g1, g2, g3, g4, g5, g6⟩ := wgt_good hwb
      have e0 : outS T ws = shareV T ws := by unfold outS; rw [if_pos hok]
      have i1 := unhide IU3; have i2 := unhide IS3
      rw [e0] at i1 i2
      have sl := share_len T ws
      have SUM := hide (share_sum T ws g3)
      have DUE : Hid (∀ i, i < ws.length → T / ws.sum * ws.getD i 0 + T % ws.sum * ws.getD i 0 / ws.sum ≤ (shareV T ws).getD i 0 ∧ (shareV T ws).getD i 0 ≤ T / ws.sum * ws.getD i 0 + T % ws.sum * ws.getD i 0 / ws.sum + 1) := fun i hi => by
        rw [fin_at T ws i hi]; exact fin_due T ws i hi
      have NON : Hid (∀ i, i < ws.length → ws.getD i 0 = 0 → (shareV T ws).getD i 0 = 0) := fun i hi h0 => by
        rw [fin_at T ws i hi]; exact fin_none T ws g3 i hi h0
      have MON : Hid (∀ i j, i < ws.length → j < ws.length → ws.getD j 0 < ws.getD i 0 → (shareV T ws).getD j 0 ≤ (shareV T ws).getD i 0) := fun i j hi hj hlt => by
        rw [fin_at T ws i hi, fin_at T ws j hj]; exact fin_mono T ws g3 hT i j hi hj (g2 j hj).1 hlt
      have DBL := hide (share_dbl T ws g3)
      rcases i1 with ⟨_, h0⟩ | ⟨gp, op, cp, rfl, _, hcp⟩
      · rw [h0] at sl; simp at sl; omega
      rcases i2 with ⟨_, h0⟩ | ⟨gs, os, cs, rfl, _, hcs⟩
      · rw [h0] at sl; simp at sl; omega
      rw [sl]
      have SL := hide sl
      have CP := hide hcp; have CS := hide hcs
      have G2 := hide g2
      have OK := hide hok
      clear hok IU3 IS3 e0 hcp hcs sl g2 hwb g5
      generalize hV : shareV T ws = V at *
      have HV := hide hV; clear hV
      go_wp2_with (fail)
      have SB : Hid (∀ k, k ≤ ws.length → 0 ≤ (ws.take k).sum ∧ (ws.take k).sum ≤ k * 1000000) := fun k hk => sum_bd' ws 1000000 k (fun j hj => by have := unhide G2 j (by omega); omega) hk
      have VB : Hid (∀ j, j < ws.length → 0 ≤ V.getD j 0 ∧ V.getD j 0 ≤ 1000000000000001) := fun j hj => by
        have h1 := unhide DUE j hj
        have h2 := unhide G2 j hj
        have h3 := ptBd hT hT' h2.1 h2.2.1 h2.2.2 g3 g4
        omega
      have PTB : Hid (∀ j, j < ws.length → _) := fun j hj => ptBd hT hT' (unhide G2 j hj).1 (unhide G2 j hj).2.1 (unhide G2 j hj).2.2 g3 g4
      have s0 : ¬ ws.sum = 0 := by omega
      generalize hS : ws.sum = S at *
      have HS := hide hS; clear hS
      go_loop [10, 11] (fun l i => ∃ k : Nat, k ≤ ws.length ∧ i = .int .i64 k ∧ l = .int .i64 ((ws.take k).sum)) (fun _ i => ws.length - (intOf i).toNat)
      case atStart => exact ⟨0, Nat.zero_le _, rfl, by simp⟩
      case round =>
        obtain ⟨k, hk, rfl, rfl⟩ := hrel
        have hb := unhide SB k hk
        by_cases hlt : k < ws.length
        · have hx := ((unhide CW3).2 k hlt).1
          have hs := sum_take ws k hlt
          have hG := unhide G2 k hlt
          rw [Nat.zero_add] at hx
          have HSt := hide hs
          clear hs
          generalize ws.getD k 0 = x at *
          generalize (ws.take k).sum = y at *
          go_wp2
          exact ⟨⟨k + 1, by omega, by go_num, by rw [unhide HSt]⟩, by simp [intOf]; omega⟩
        · obtain rfl : k = ws.length := by omega
          have eS : (ws.take ws.length).sum = S := by rw [List.take_length]; exact unhide HS
          rw [eS]
          clear eS hb
          go_wp2
          have wl := (unhide CW3).1
          have pl := (unhide CP).1
          have sl := (unhide CS).1
          go_loopw [9, 12, 13] (fun s d i wr => ∃ k g c : Nat, k ≤ ws.length ∧ s = .int .i64 ((V.take k).sum) ∧ d = .slice (some ⟨g, 0, none⟩) k c ∧ i = .int .i64 k ∧ Hid (Own wr W3.heap.size g c ((dbl ws).take k)) ∧ Hid (Below W3.heap.size W3 wr)) (fun _ _ i _ => ws.length - (intOf i).toNat)
          case atStart => exact ⟨0, W3.heap.size, 0, Nat.zero_le _, by simp, rfl, rfl, Own.new W3 W3.heap.size (Nat.le_refl _), (Below.refl _ _).alloc (Nat.le_refl _) _⟩
          case round =>
            obtain ⟨k, g, c, hk, rfl, rfl, rfl, O1, B4⟩ := hrel
            have hvb := sum_bd' V 1000000000000001 k (fun j hj => unhide VB j (by omega)) (by have := unhide SL; omega)
            by_cases hlt : k < ws.length
            · have CWr := hide ((unhide CW3).kept (below_grown (unhide B4) none) (by simp))
              have CPr := hide ((unhide CP).kept (below_grown (unhide B4) none) (by simp))
              have CSr := hide ((unhide CS).kept (below_grown (unhide B4) none) (by simp))
              have hlv : k < V.length := by have := unhide SL; omega
              have hx := ((unhide CWr).2 k hlt).1
              rw [Nat.zero_add] at hx
              have hp := ((unhide CPr).2 k hlv).1
              have hw := ((unhide CSr).2 k hlv).1
              have hG := unhide G2 k hlt
              have hDu := unhide DUE k hlt
              have hVb := unhide VB k hlt
              have hNo := unhide NON k hlt
              have hMo : Hid (∀ j, j < ws.length → ws.getD j 0 < ws.getD k 0 → V.getD j 0 ≤ V.getD k 0) := fun j hj hjk => unhide MON k j hlt hj hjk
              obtain ⟨b1, b2, b3, b4, b5, b6, b7, b8, b9, b10, b11, b12⟩ := ptBd hT hT' hG.1 hG.2.1 hG.2.2 g3 g4
              have i1 : (0 : Int) ≤ (k : Int) := by omega
              have i2 : (k : Int) < (ws.length : Int) := by omega
              have hS1 := sum_take V k hlv
              have hdl : k < (dbl ws).length := by simp [dbl]; exact hlt
              have hD1 := take_step (dbl ws) k hdl
              have hdk : (dbl ws).getD k 0 = 2 * ws.getD k 0 := by simp [dbl, List.getD, hlt]
              rw [hdk] at hD1
              have lD := take_len (dbl ws) k (by omega)
              have HS1 := hide hS1; have HD1 := hide hD1; have LD := hide lD
              have gl := (unhide O1).lt
              have hz : ((ws.getD k 0 == 0) = true ∧ (V.getD k 0 != 0) = false) ∨ (ws.getD k 0 == 0) = false := by
                by_cases h0 : ws.getD k 0 = 0
                · exact .inl ⟨by simpa using h0, by simpa using hNo h0⟩
                · exact .inr (by simpa using h0)
              obtain ⟨d1, d2⟩ := hDu
              have q1 : ¬ V.getD k 0 < T / S * ws.getD k 0 + T % S * ws.getD k 0 / S := by omega
              have q2 : ¬ T / S * ws.getD k 0 + T % S * ws.getD k 0 / S + 1 < V.getD k 0 := by omega
              have hdb : 0 ≤ T / S * ws.getD k 0 + T % S * ws.getD k 0 / S ∧ T / S * ws.getD k 0 + T % S * ws.getD k 0 / S ≤ 1000000000000000 := by omega
              have hpp : (V.getD k 0 != V.getD k 0) = false := by simp
              clear hNo hS1 hD1 hdk lD hdl d1 d2
              generalize ws.getD k 0 = x at *
              generalize V.getD k 0 = p at *
              generalize (V.take k).sum = y at *
              rcases hz with ⟨z1, z2⟩ | z1
              · go_wp2
                go_quiet (fail)
                go_wp2
                clear b1 b2 b3 b4 b5 b6 b7 b8 b9 b10 b11 b12
                generalize T / S * x + T % S * x / S = d at *
                have hw1 : IntKind.i64.wrap (d + 1) = d + 1 := IntWalk.i64_in _ (by omega)
                go_quiet (fail)
                go_wp2
                go_loopw [15] (fun j wr3 => ∃ m q : Nat, m ≤ ws.length ∧ j = .int .i64 m ∧ wr3 = wr.drewN q) (fun j _ => ws.length - (intOf j).toNat)
                case atStart => exact ⟨0, _, Nat.zero_le _, rfl, World.drewN_drewN _ _ _⟩
                case round =>
                  obtain ⟨m, q, hm, rfl, rfl⟩ := hrel
                  by_cases hmt : m < ws.length
                  · have cy := ((unhide CWr).2 m hmt).1
                    rw [Nat.zero_add] at cy
                    have cz := ((unhide CPr).2 m (by have := unhide SL; omega)).1
                    have hmo := unhide hMo m hmt
                    have j1 : (0 : Int) ≤ (m : Int) := by omega
                    have j2 : (m : Int) < (ws.length : Int) := by omega
                    generalize ws.getD m 0 = ym at *
                    generalize V.getD m 0 = pm at *
                    by_cases hxy : ym < x
                    · have hle : ¬ p < pm := by have := hmo hxy; omega
                      clear hmo
                      go_wp2
                      go_quiet (fail)
                      go_wp2
                      exact ⟨⟨m + 1, _, by omega, by go_num, rfl⟩, by simp [intOf]; omega⟩
                    · have hxy' : decide (ym < x) = false := by simpa using hxy
                      clear hmo
                      go_wp2
                      go_quiet (fail)
                      go_wp2
                      exact ⟨⟨m + 1, _, by omega, by go_num, rfl⟩, by simp [intOf]; omega⟩
                  · have ld := unhide LD
                    have hbs4 := (unhide B4).size
                    clear hMo
                    go_wp2_with (first
                         | (at_builtin
                            refine listApp _ rfl _ _ rfl W3.heap.size g c _ k ((dbl ws).take k) _ (unhide LD) rfl (Own.kept (unhide O1) (grown_d1 _ _ _ none) (by simp)) rfl (MapKept.heap_alloc _ _).1 (by omega) (by simp; omega) ?_
                            intro gb cb w6 ho hgr hat hlt6
                            rw [← unhide HD1] at ho
                            have O6 := hide ho
                            have B6 := hide (below_gr (unhide B4) (grown_trans (grown_d1 _ _ _ (some g)) hgr) hbs4 (fun q hq => by cases hq; exact gl.1))
                            clear ho hgr hat))
                    exact ⟨⟨k + 1, gb, cb, by omega, by rw [unhide HS1], rfl, by go_num, O6, B6⟩, by simp [intOf]; omega⟩
              · go_wp2
                go_quiet (fail)
                go_wp2
                clear b1 b2 b3 b4 b5 b6 b7 b8 b9 b10 b11 b12
                generalize T / S * x + T % S * x / S = d at *
                have hw1 : IntKind.i64.wrap (d + 1) = d + 1 := IntWalk.i64_in _ (by omega)
                go_quiet (fail)
                go_wp2
                go_loopw [15] (fun j wr3 => ∃ m q : Nat, m ≤ ws.length ∧ j = .int .i64 m ∧ wr3 = wr.drewN q) (fun j _ => ws.length - (intOf j).toNat)
                case atStart => exact ⟨0, _, Nat.zero_le _, rfl, World.drewN_drewN _ _ _⟩
                case round =>
                  obtain ⟨m, q, hm, rfl, rfl⟩ := hrel
                  by_cases hmt : m < ws.length
                  · have cy := ((unhide CWr).2 m hmt).1
                    rw [Nat.zero_add] at cy
                    have cz := ((unhide CPr).2 m (by have := unhide SL; omega)).1
                    have hmo := unhide hMo m hmt
                    have j1 : (0 : Int) ≤ (m : Int) := by omega
                    have j2 : (m : Int) < (ws.length : Int) := by omega
                    generalize ws.getD m 0 = ym at *
                    generalize V.getD m 0 = pm at *
                    by_cases hxy : ym < x
                    · have hle : ¬ p < pm := by have := hmo hxy; omega
                      clear hmo
                      go_wp2
                      go_quiet (fail)
                      go_wp2
                      exact ⟨⟨m + 1, _, by omega, by go_num, rfl⟩, by simp [intOf]; omega⟩
                    · have hxy' : decide (ym < x) = false := by simpa using hxy
                      clear hmo
                      go_wp2
                      go_quiet (fail)
                      go_wp2
                      exact ⟨⟨m + 1, _, by omega, by go_num, rfl⟩, by simp [intOf]; omega⟩
                  · have ld := unhide LD
                    have hbs4 := (unhide B4).size
                    clear hMo
                    go_wp2_with (first
                         | (at_builtin
                            refine listApp _ rfl _ _ rfl W3.heap.size g c _ k ((dbl ws).take k) _ (unhide LD) rfl (Own.kept (unhide O1) (grown_d1 _ _ _ none) (by simp)) rfl (MapKept.heap_alloc _ _).1 (by omega) (by simp; omega) ?_
                            intro gb cb w6 ho hgr hat hlt6
                            rw [← unhide HD1] at ho
                            have O6 := hide ho
                            have B6 := hide (below_gr (unhide B4) (grown_trans (grown_d1 _ _ _ (some g)) hgr) hbs4 (fun q hq => by cases hq; exact gl.1))
                            clear ho hgr hat))
                    exact ⟨⟨k + 1, gb, cb, by omega, by rw [unhide HS1], rfl, by go_num, O6, B6⟩, by simp [intOf]; omega⟩
            · obtain rfl : k = ws.length := by omega
              have eV : V.take ws.length = V := List.take_of_length_le (by have := unhide SL; omega)
              have dl : (dbl ws).length = ws.length := by simp [dbl]
              have eD : (dbl ws).take ws.length = dbl ws := List.take_of_length_le (by omega)
              have o1 := unhide O1
              rw [eD] at o1
              rw [eV, unhide SUM]
              have ID : IR _ (.slice (some ⟨g, 0, none⟩) ws.length c) (dbl ws) := .inr ⟨g, 0, c, by rw [dl], by omega, o1.cells⟩
              have cA := ansI _ (dbl ws) T _ ID
              have CPr := hide ((unhide CP).kept (below_grown (unhide B4) none) (by simp))
              have BW := hide ((unhide B3).trans ((unhide B4).mono (unhide B3).size))
              clear o1 O1 ID eV eD hvb B4
              cases hcan : okS T (dbl ws)
              · have e0 : outS T (dbl ws) = [] := by unfold outS; rw [hcan]; rfl
                rw [e0, hcan] at cA
                go_wp2_with (fail)
                refine cA.mono ?_
                rintro e W5 ⟨u3, rfl, i3, _, b5⟩
                obtain ⟨a3, c3, rfl⟩ := slice_form i3
                have B5 := hide ((unhide BW).trans (b5.mono (unhide BW).size))
                clear cA i3 b5 CPr BW
                go_wp2
                refine wp_loop_rounds 1 ?_
                rw [rounds_succ]
                go_wp2
                go_ret
                exact ⟨rfl, unhide B5⟩
              · have e0 : outS T (dbl ws) = V := by unfold outS; rw [if_pos hcan]; exact unhide DBL
                rw [e0, hcan] at cA
                go_wp2_with (fail)
                refine cA.mono ?_
                rintro e W5 ⟨u3, rfl, i3, _, b5⟩
                have sl := unhide SL
                rcases i3 with ⟨_, h0⟩ | ⟨gq, oq, cq, rfl, _, hcq⟩
                · rw [h0] at sl; simp at sl; omega
                rw [sl]
                have B5 := hide ((unhide BW).trans (b5.mono (unhide BW).size))
                have CP5 := hide ((unhide CPr).kept (below_grown b5 none) (by simp))
                have CQ := hide hcq
                clear cA hcq b5 CPr BW
                go_wp2
                go_loopw [18] (fun i wr => ∃ k q : Nat, k ≤ ws.length ∧ i = .int .i64 k ∧ wr = W5.drewN q) (fun i _ => ws.length - (intOf i).toNat)
                case atStart => exact ⟨0, 0, Nat.zero_le _, rfl, rfl⟩
                case round =>
                  obtain ⟨k, q, hk, rfl, rfl⟩ := hrel
                  by_cases hlt : k < ws.length
                  · have c1 := ((unhide CP5).2 k (by omega)).1
                    have c2 := ((unhide CQ).2 k (by omega)).1
                    have i1 : (0 : Int) ≤ (k : Int) := by omega
                    have i2 : (k : Int) < (ws.length : Int) := by omega
                    have hpp : (V.getD k 0 != V.getD k 0) = false := by simp
                    generalize V.getD k 0 = p at *
                    go_wp2
                    go_quiet (fail)
                    go_wp2
                    exact ⟨⟨k + 1, _, by omega, by go_num, rfl⟩, by simp [intOf]; omega⟩
                  · go_wp2
                    go_ret
                    exact ⟨rfl, below_d (unhide B5) q⟩
end Go.Proofs.Ythhkjbhkginecaa.Share
