/-
  spec.UsePut: what it answers.
-/
import Derived.Test.YthhkjbhkginecaaPutS2
namespace Go.Proofs.Ythhkjbhkginecaa.Evs
set_option linter.unusedVariables false
open Go.RowKit Go.Maps MapM RegIn

set_option maxRecDepth 20000 in
set_option maxHeartbeats 4000000 in
/-- spec.UsePut; what is put lies in a row of the call's own -/
theorem usePutX (v : Value) (l : List E) (e : E) (w : World) (h : ER w v l) (hl : l.length ≤ 1048576) (hs : ∀ u ∈ l, u.1.size ≤ maxLen ∧ u.2.1.size ≤ maxLen) (h1 : e.1.size ≤ maxLen) (h2 : e.2.1.size ≤ maxLen) (hcap : capOk v) :
    Calls Try.prog 13 #[v, eV e] w fun x w' => ∃ v', x = .returned (.tuple #[v', .int .i64 (putD l e)]) ∧ EN w.heap.size w' v' (putO l e) ∧ Below w.heap.size w w' ∧ (putD l e = 0 → ∃ b k, v' = .slice (some ⟨b, 0, none⟩) (putO l e).length k ∧ XO w' w.heap.size b k (putO l e)) := by
  obtain ⟨s, m, q⟩ := e
  simp only at h1 h2
  have hb0 : Below w.heap.size w (w.alloc (.cells #[.string s, .string m, .int .i64 q] 31)) := (Below.refl _ _).alloc (Nat.le_refl _) _
  have H := hide (h.kept hb0)
  have HS := hide hs
  have B0 := hide hb0
  clear h hs hb0
  cases hok : okB l with
  | false =>
    have e1 : putO l (s, m, q) = [] := by unfold putO; rw [hok]; rfl
    have e2 : putD l (s, m, q) = 4 := by unfold putD; rw [hok]; rfl
    rw [e1, e2]
    go_enter Try.func13, Try.ntmps13
    go_wp2_with (fail)
    refine (okS v l _ (unhide H) hl (unhide HS)).mono ?_
    rintro x w1 ⟨rfl, hb1⟩
    rw [hok]
    have B1 := hide (below_trans (unhide B0) hb1)
    clear hb1
    go_wp2
    exact bodyPost_ret (v := .tuple #[.slice none 0 0, .int .i64 4]) (by simp [results, Try.results13, go_sem]) rfl ⟨_, rfl, .inl ⟨rfl, _, _, rfl⟩, unhide B1, fun h => absurd h (by decide)⟩
  | true =>
    have e1 : putO l (s, m, q) = putL l (s, m, q) := by unfold putO; rw [hok]; rfl
    have e2 : putD l (s, m, q) = putC l (s, m, q) := by unfold putD; rw [hok]; rfl
    rw [e1, e2]
    generalize hfc : putC l (s, m, q) = fc
    generalize hfl : putL l (s, m, q) = fl
    have HFC := hide hfc; have HFL := hide hfl
    clear hfc hfl e1 e2
    have HA := hide (okB_asc hok)
    have hl20 := okB_len hok
    have HRS := hide (rightS (s, m, q))
    generalize hrt : rightE (s, m, q) = rt at *
    have HRT := hide hrt
    clear hrt
    go_enter Try.func13, Try.ntmps13
    go_wp2_with (fail)
    refine (okS v l _ (unhide H) hl (unhide HS)).mono ?_
    rintro x w1 ⟨rfl, hb1⟩
    rw [hok]
    have H1 := hide ((unhide H).kept hb1)
    have B1 := hide (below_trans (unhide B0) hb1)
    have c0 : w1.cell? ⟨w.heap.size, 0, none⟩ = some (.string s) := (hb1.cell (p := ⟨w.heap.size, 0, none⟩) (by simp)).trans (by go_keep)
    have c1 : w1.cell? ⟨w.heap.size, 1, none⟩ = some (.string m) := (hb1.cell (p := ⟨w.heap.size, 1, none⟩) (by simp)).trans (by go_keep)
    have c2 : w1.cell? ⟨w.heap.size, 2, none⟩ = some (.int .i64 q) := (hb1.cell (p := ⟨w.heap.size, 2, none⟩) (by simp)).trans (by go_keep)
    have zz : w.heap.size < w1.heap.size := Nat.lt_of_lt_of_le (by simp) hb1.size
    clear hb1 H hok B0
    have X1 := hide (XO.made w1 w.heap.size (unhide B1).size 31 rfl)
    have b1 := (Below.refl w1.heap.size w1).alloc (Nat.le_refl _) (.cells #[] 31)
    have H2 := hide ((unhide H1).kept b1)
    have B2 := hide (below_trans (unhide B1) b1)
    clear b1
    go_wp2_with (first | (at_builtin; refine listAppE _ rfl _ _ rfl w.heap.size w1.heap.size 0 0 [] l _ rfl rfl (unhide X1) rfl (unhide H2) (by simp; omega) (unhide B2).size ?_; intro b2 k2 w2 hx2 hg2 hat2 hlt2; have b12 : Below w1.heap.size w1 w2 := ((Below.refl w1.heap.size w1).alloc (Nat.le_refl _) _).grown hg2 (by simp) (fun j hj => by cases hj; exact Nat.le_refl _); have d0 := (b12.cell (p := ⟨w.heap.size, 0, none⟩) zz).trans c0; have d1 := (b12.cell (p := ⟨w.heap.size, 1, none⟩) zz).trans c1; have d2 := (b12.cell (p := ⟨w.heap.size, 2, none⟩) zz).trans c2; have B12 := hide b12; have HX2 := hide hx2; clear b12 hx2 hg2 hat2 hlt2) | fail)
    have H3 := hide ((unhide H1).kept (unhide B12))
    have B3 := hide (below_trans (unhide B1) (unhide B12))
    rw [List.nil_append] at HX2
    have z2 : w.heap.size < w2.heap.size := Nat.lt_of_lt_of_le zz (unhide B12).size
    clear H1 H2 B1 B2 X1 B12 c0 c1 c2
    refine (unhide HRS _ h1 h2).mono ?_
    rintro x w3 ⟨rfl, hb3⟩
    have e0 := (hb3.cell (p := ⟨w.heap.size, 0, none⟩) z2).trans d0
    have e1 := (hb3.cell (p := ⟨w.heap.size, 1, none⟩) z2).trans d1
    have e2 := (hb3.cell (p := ⟨w.heap.size, 2, none⟩) z2).trans d2
    have z3 : w.heap.size < w3.heap.size := Nat.lt_of_lt_of_le z2 hb3.size
    have H4 := hide ((unhide H3).kept hb3)
    have B4 := hide (below_trans (unhide B3) hb3)
    have O4 := hide ((unhide HX2).own.2.kept hb3)
    have z4 : w.heap.size ≤ b2 ∧ l.length ≤ k2 := ⟨(unhide HX2).own.1, (unhide HX2).cap⟩
    clear hb3 d0 d1 d2 H3 B3 HX2
    cases rt with
    | false =>
      have h0 : putC l (s, m, q) = 4 := by unfold putC; rw [if_pos (unhide HRT)]
      have hc1 : fc = 4 := (unhide HFC).symm.trans h0
      have hc2 : l = fl := (putL_old (by rw [h0]; decide)).symm.trans (unhide HFL)
      subst hc1
      subst hc2
      clear h0
      go_wp2
      exact bodyPost_ret (v := .tuple #[.slice (some ⟨b2, 0, none⟩) l.length k2, .int .i64 4]) (by simp [results, Try.results13, go_sem]) rfl ⟨_, rfl, .inr ⟨b2, k2, rfl, z4, unhide O4⟩, unhide B4, fun h => absurd h (by decide)⟩
    | true =>
      go_wp2_with (fail)
      refine (atS v l s _ (unhide H4) hl (unhide HA)).mono ?_
      rintro x w4 ⟨rfl, hb4⟩
      have f0 := (hb4.cell (p := ⟨w.heap.size, 0, none⟩) z3).trans e0
      have f1 := (hb4.cell (p := ⟨w.heap.size, 1, none⟩) z3).trans e1
      have f2 := (hb4.cell (p := ⟨w.heap.size, 2, none⟩) z3).trans e2
      have z5 : w.heap.size < w4.heap.size := Nat.lt_of_lt_of_le z3 hb4.size
      have H5 := hide ((unhide H4).kept hb4)
      have B5 := hide (below_trans (unhide B4) hb4)
      have O5 := hide ((unhide O4).kept hb4)
      clear hb4 e0 e1 e2 H4 B4 O4
      cases hok : (lookE l s).2 with
      | true =>
        obtain ⟨hp, hlk, hid⟩ := look_hit_pos (unhide HA) hok
        rcases unhide H5 with ⟨rfl, _⟩ | ⟨b, o, cap, rfl, hc⟩
        · simp at hp
        obtain ⟨c0, c1, c2⟩ := hc.2 _ hp
        have hg : l.getD (pos keyE s.data.toList l) E0 = l[pos keyE s.data.toList l] := by simp [List.getD, hp]
        rw [hg] at c0 c1 c2
        have i1 : (0 : Int) ≤ (pos keyE s.data.toList l : Nat) := by omega
        have i2 : ((pos keyE s.data.toList l : Nat) : Int) < (l.length : Int) := by omega
        have hxs : Hid (l[pos keyE s.data.toList l].1 = s) := hide hid
        have HL : Hid (lookE l s = (l[pos keyE s.data.toList l], true)) := hide hlk
        clear hlk hid hc hg
        generalize l[pos keyE s.data.toList l] = x at *
        obtain ⟨xs, xm, xq⟩ := x
        simp only at c0 c1 c2
        obtain rfl : xs = s := unhide hxs
        by_cases hx : ((xs, xm, xq) : E) = (xs, m, q)
        · have h0 : putC l (xs, m, q) = 1 := by unfold putC; rw [if_neg (by rw [unhide HRT]; simp), if_pos hok, if_pos (by rw [unhide HL]; exact hx)]
          have hc1 : fc = 1 := (unhide HFC).symm.trans h0
          have hc2 : l = fl := (putL_old (by rw [h0]; decide)).symm.trans (unhide HFL)
          subst hc1
          subst hc2
          simp only [Prod.mk.injEq, true_and] at hx
          obtain ⟨rfl, rfl⟩ := hx
          clear h0 hok hxs HL HRT HRS
          generalize pos keyE xs.data.toList l = p at *
          go_wp2
          go_quiet (fail)
          go_wp2
          exact bodyPost_ret (v := .tuple #[.slice (some ⟨b2, 0, none⟩) l.length k2, .int .i64 1]) (by simp [results, Try.results13, go_sem]) rfl ⟨_, rfl, .inr ⟨b2, k2, rfl, z4, unhide O5⟩, below_drewN' (unhide B5) _, fun h => absurd h (by decide)⟩
        · have h0 : putC l (xs, m, q) = 2 := by unfold putC; rw [if_neg (by rw [unhide HRT]; simp), if_pos hok, if_neg (by rw [unhide HL]; exact hx)]
          have hc1 : fc = 2 := (unhide HFC).symm.trans h0
          have hc2 : l = fl := (putL_old (by rw [h0]; decide)).symm.trans (unhide HFL)
          subst hc1
          subst hc2
          clear h0 hok hxs HL HRT HRS
          generalize pos keyE xs.data.toList l = p at *
          by_cases hxm : xm = m
          · subst hxm
            have hq : xq ≠ q := fun e => hx (by rw [e])
            have hqb : (xq == q) = false := by simpa using hq
            clear hx
            go_wp2
            go_quiet (fail)
            go_wp2
            exact bodyPost_ret (v := .tuple #[.slice (some ⟨b2, 0, none⟩) l.length k2, .int .i64 2]) (by simp [results, Try.results13, go_sem]) rfl ⟨_, rfl, .inr ⟨b2, k2, rfl, z4, unhide O5⟩, below_drewN' (unhide B5) _, fun h => absurd h (by decide)⟩
          · have hmb : (xm.toList == m.toList) = false := by
              rw [beq_eq_false_iff_ne]; intro e; exact hxm (ext_toList e)
            clear hx
            go_wp2
            go_quiet (fail)
            go_wp2
            exact bodyPost_ret (v := .tuple #[.slice (some ⟨b2, 0, none⟩) l.length k2, .int .i64 2]) (by simp [results, Try.results13, go_sem]) rfl ⟨_, rfl, .inr ⟨b2, k2, rfl, z4, unhide O5⟩, below_drewN' (unhide B5) _, fun h => absurd h (by decide)⟩
      | false =>
        obtain ⟨va, vc, rfl, htk⟩ := (unhide H5).take (pos keyE s.data.toList l) (pos_le _ _ _)
        have HT := hide htk
        clear htk
        have hvc : l.length ≤ vc := hcap _ _ _ rfl
        by_cases h20 : 20 ≤ l.length
        · have h0 : putC l (s, m, q) = 3 := by unfold putC; rw [if_neg (by rw [unhide HRT]; simp), if_neg (by rw [hok]; simp), if_pos h20]
          have hc1 : fc = 3 := (unhide HFC).symm.trans h0
          have hc2 : l = fl := (putL_old (by rw [h0]; decide)).symm.trans (unhide HFL)
          subst hc1
          subst hc2
          have hy : ((l.length : Int) == 20) = true := by simp; omega
          clear h0 hok HRT HRS HT
          generalize pos keyE s.data.toList l = p at *
          go_wp2
          go_quiet (fail)
          go_wp2
          exact bodyPost_ret (v := .tuple #[.slice (some ⟨b2, 0, none⟩) l.length k2, .int .i64 3]) (by simp [results, Try.results13, go_sem]) rfl ⟨_, rfl, .inr ⟨b2, k2, rfl, z4, unhide O5⟩, below_drewN' (unhide B5) _, fun h => absurd h (by decide)⟩
        · have hy : ((l.length : Int) == 20) = false := by simp; omega
          obtain ⟨p0, p1, _, _⟩ := putL_new (unhide HRT) hok h20
          have hc1 : fc = 0 := (unhide HFC).symm.trans p0
          have hc2 := p1.symm.trans (unhide HFL)
          subst hc1
          subst hc2
          have hpl := pos_le keyE s.data.toList l
          have hpk : pos keyE (kb keyE (s, m, q)) l = pos keyE s.data.toList l := rfl
          rw [hpk]
          clear p0 p1 hok HRT HRS HFC HFL hpk
          generalize hp0 : pos keyE s.data.toList l = p at *
          have HP0 := hide hp0
          clear hp0
          go_wp2
          go_quiet (fail)
          go_wp2
          have hv1 : (0 : Int) ≤ (p : Int) := by omega
          have hv2 : (p : Int) ≤ (vc : Int) := by omega
          have ga : ∀ (n : Nat) (x : Obj), Below w4.heap.size w4 ((w4.drewN n).alloc x) := fun n x => (below_drewN' (Below.refl _ _) n).alloc (by simp) _
          have g0 : ∀ (n : Nat) (x : Obj), ((w4.drewN n).alloc x).cell? ⟨w.heap.size, 0, none⟩ = some (.string s) := fun n x => ((ga n x).cell (p := ⟨w.heap.size, 0, none⟩) z5).trans f0
          have g1 : ∀ (n : Nat) (x : Obj), ((w4.drewN n).alloc x).cell? ⟨w.heap.size, 1, none⟩ = some (.string m) := fun n x => ((ga n x).cell (p := ⟨w.heap.size, 1, none⟩) z5).trans f1
          have g2 : ∀ (n : Nat) (x : Obj), ((w4.drewN n).alloc x).cell? ⟨w.heap.size, 2, none⟩ = some (.int .i64 q) := fun n x => ((ga n x).cell (p := ⟨w.heap.size, 2, none⟩) z5).trans f2
          clear ga
          go_region_law (first
            | (refine stepAppE _ rfl _ _ rfl w.heap.size b6 c6 p ([] ++ l.take p) [(s, m, q)] _ (by simp; omega) (by first | rfl | simp) (by first | exact hx6 | exact XO.up hx6) rfl (by first | exact srcNew _ s m q | (refine ER.grown1 ?_ hg6 ?_; refine srcN ?_ s m q; simp; simp) | (refine ER.grown1 ?_ hg6 ?_; refine srcN1 ?_ s m q; simp; simp)) (by simp; omega) (by first | exact Nat.le_trans (Nat.le_of_lt z5) K6.size | exact Nat.le_trans (Nat.le_of_lt z5) (K6.alloc K6.size _).size) ?_; intro b7 c7 w7 hx7 hg7 hat7 hlt7; have K7 : Below w4.heap.size w4 w7 := (by first | (refine Below.grown K6 hg7 K6.size ?_; intro j hj; cases hj; exact hb6) | (refine Below.grown (K6.alloc K6.size _) hg7 (K6.alloc K6.size _).size ?_; intro j hj; cases hj; exact hb6)))
            | (refine stepAppE _ rfl _ _ rfl w.heap.size _ 0 0 [] (l.take p) _ rfl rfl (by first | (refine XO.mk0 ?_ ?_ <;> simp <;> omega) | (refine XO.mk1 ?_ ?_ <;> simp <;> omega)) rfl (by first | exact ER.up1 (unhide HT _) | exact ER.up2 (unhide HT _)) (by simp; omega) (by simp; omega) ?_; intro b6 c6 w6 hx6 hg6 hat6 hlt6; have hb6 : w4.heap.size ≤ b6 := (by simp at hat6; omega); have K6 : Below w4.heap.size w4 w6 := (by first | exact Below.grown (bw1 _ _ _) hg6 (bw1 _ _ _).size (fun j hj => by cases hj; simp) | exact Below.grown (bw2 _ _ _ _) hg6 (bw2 _ _ _ _).size (fun j hj => by cases hj; simp)); have q0 := (K6.cell (p := ⟨w.heap.size, 0, none⟩) z5).trans f0; have q1 := (K6.cell (p := ⟨w.heap.size, 1, none⟩) z5).trans f1; have q2 := (K6.cell (p := ⟨w.heap.size, 2, none⟩) z5).trans f2))
          all_goals (have HX7 := hide hx7; have KK := hide K7; clear hx7 hg7 hat7 hlt7 K7)
          all_goals (try clear hx6 hg6 hat6 hlt6 K6 hb6 q0 q1 q2)
          all_goals clear g0 g1 g2
          all_goals (have H7 := hide ((unhide H5).kept (unhide KK)))
          all_goals (have B7 := hide (below_trans (unhide B5) (unhide KK)))
          all_goals (rw [List.nil_append] at HX7)
          all_goals (go_wp2_with (first | (refine wpList_dropE rfl _ _ rfl va l p vc rfl rfl (unhide H7) hpl hvc ?_; intro a8 c8 h8; have H8 := hide h8; clear h8) | (at_builtin; refine listAppE _ rfl _ _ rfl w.heap.size b7 c7 (p + 1) (l.take p ++ [(s, m, q)]) (l.drop p) _ (by simp; omega) rfl (unhide HX7) rfl (unhide H8) (by simp; omega) (unhide B7).size ?_; intro b9 c9 w9 hx9 hg9 hat9 hlt9; have HX9 := hide hx9; have B9 := hide (grown_below (unhide B7) hg9 (unhide HX7).own.1); clear hx9 hg9 hat9 hlt9) | go_in))
          all_goals (refine bodyPost_ret (v := .tuple #[.slice (some ⟨b9, 0, none⟩) (p + 1 + (l.length - p)) c9, .int .i64 0]) (by simp [results, Try.results13, go_sem]) rfl ⟨_, rfl, ?_, unhide B9, b9, c9, ?_, ?_⟩)
          all_goals (have hN := (unhide HX9).en; have hY := unhide HX9; have e1 : (l.take p ++ [(s, m, q)] ++ l.drop p).length = p + 1 + (l.length - p) := (by simp; omega); rw [e1] at hN; rw [show pos keyE (kb keyE (s, m, q)) l = p from unhide HP0]; first | (simpa using hN) | (simpa using hY) | (simp; omega))

/-- spec.UsePut -/
theorem usePutS (v : Value) (l : List E) (e : E) (w : World) (h : ER w v l) (hl : l.length ≤ 1048576) (hs : ∀ u ∈ l, u.1.size ≤ maxLen ∧ u.2.1.size ≤ maxLen) (h1 : e.1.size ≤ maxLen) (h2 : e.2.1.size ≤ maxLen) (hcap : capOk v) :
    Calls Try.prog 13 #[v, eV e] w fun x w' => ∃ v', x = .returned (.tuple #[v', .int .i64 (putD l e)]) ∧ EN w.heap.size w' v' (putO l e) ∧ Below w.heap.size w w' := by
  refine (usePutX v l e w h hl hs h1 h2 hcap).mono ?_
  rintro x w' ⟨v', rfl, a, b, _⟩
  exact ⟨v', rfl, a, b⟩
end Go.Proofs.Ythhkjbhkginecaa.Evs
