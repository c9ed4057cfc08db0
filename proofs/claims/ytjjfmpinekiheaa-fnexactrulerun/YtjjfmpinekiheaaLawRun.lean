/-
  impl.RuleRun, and the law on RuleRun.
-/
import Derived.Test.YtjjfmpinekiheaaRunI3
import Derived.Test.YtjjfmpinekiheaaLawOk
namespace Go.Proofs.Ytjjfmpinekiheaa.Rule
set_option linter.unusedVariables false
open Go.RowKit Tiers

theorem RunOf.no {us : List Uses.U} {e : Ex} {f v c t : Int} (h : RunOf us e f v c t) (hn : ¬ (okE e = true ∧ 0 ≤ f ∧ f ≤ 1000)) : v = 0 ∧ c = 3 ∧ t = 0 := by
  unfold RunOf at h; rw [if_neg hn] at h; exact h
theorem RunOf.yes {us : List Uses.U} {e : Ex} {f v c t : Int} (h : RunOf us e f v c t) (hy : okE e = true ∧ 0 ≤ f ∧ f ≤ 1000) : ∃ (n' : Int) (c' l' : Nat), Ev us e f.toNat n' c' l' ∧ c = c' ∧ (l' : Int) ≤ f ∧ v = (if c' = 0 then n' else 0) ∧ t = f - l' := by
  unfold RunOf at h; rw [if_pos hy] at h; exact h

set_option maxHeartbeats 1600000 in
theorem runI (us : List Uses.U) (hul : us.length ≤ 1048576) (d lo hi : Nat) (v uv : Value) (e : Ex) (f : Int) (w : World) (h : EV lo hi w d v e) (hhi : hi ≤ w.heap.size) (hw : wt e ≤ 1048576) (hU : Uses.UR w uv us) (sv sc st : Int) (hs : RunOf us e f sv sc st) :
    Calls Try.prog 13 #[v, uv, .int .i64 f] w fun x w' => x = .returned (.tuple #[.int .i64 sv, .int .i64 sc, .int .i64 st]) ∧ Below w.heap.size w w' := by
  obtain ⟨ka, kc, ta, tc, rfl⟩ := h.form
  have HS := hide hs
  obtain ⟨W1, hW1⟩ : ∃ W1, w.alloc (.cells #[.int .i64 e.kind, .int .i64 e.num, .string e.meter, .slice ka e.kids.length kc, .slice ta e.tiers.length tc] 26) = W1 := ⟨_, rfl⟩
  have HW1 := hide hW1
  have hb1 : Below w.heap.size w W1 := by rw [← hW1]; exact below_alloc _ _
  have HB1 := hide hb1
  have HX : Hid (Box W1 w.heap.size e ka kc ta tc) := hide (by rw [← hW1]; exact Box.new _ _ _ _ _ _ _)
  have HE1 := hide (keptE h hhi hb1)
  have HU1 := hide (hU.kept hb1)
  have hs1 : w.heap.size < W1.heap.size := by rw [← hW1]; simp
  clear hW1 hb1 h hU hs
  by_cases f0 : f < 0
  · obtain ⟨rfl, rfl, rfl⟩ := (unhide HS).no (by omega)
    clear HS
    go_enter Try.func13, Try.ntmps13
    go_wp2_with (fail)
    go_ret3
    exact ⟨rfl, below_alloc _ _⟩
  by_cases f1 : 1000 < f
  · obtain ⟨rfl, rfl, rfl⟩ := (unhide HS).no (by omega)
    clear HS
    go_enter Try.func13, Try.ntmps13
    go_wp2_with (fail)
    go_ret3
    exact ⟨rfl, below_alloc _ _⟩
  go_enter Try.func13, Try.ntmps13
  go_wp2_with (fail)
  rw [unhide HW1]
  refine (okI d lo hi _ e W1 (unhide HE1) (by omega) hw).mono ?_
  rintro x w2 ⟨rfl, hb2⟩
  have HX2 := hide ((unhide HX).kept hb2)
  have HE2 := hide (keptE (unhide HE1) (by omega) hb2)
  have HU2 := hide ((unhide HU1).kept hb2)
  have HB2 := hide (below_trans (unhide HB1) hb2)
  have hs2 : w.heap.size < w2.heap.size := Nat.lt_of_lt_of_le hs1 hb2.size
  clear HX HE1 HU1 HB1 hb2 HW1
  obtain ⟨x0, x1, x2, x3, x4⟩ := unhide HX2
  cases hk : okE e
  · obtain ⟨rfl, rfl, rfl⟩ := (unhide HS).no (by rw [hk]; rintro ⟨h, _⟩; cases h)
    clear hk HS
    go_wp2_with (fail)
    go_ret3
    exact ⟨rfl, unhide HB2⟩
  obtain ⟨F, rfl⟩ := Int.eq_ofNat_of_zero_le (show 0 ≤ f by omega)
  obtain ⟨n', c', l', hev, rfl, hl, hsv, rfl⟩ := (unhide HS).yes ⟨hk, by omega, by omega⟩
  have HEV : Hid (Ev us e F n' c' l') := hide (by simpa using hev)
  have HIN : Hid (In lo hi w2 e ka kc ta tc) := hide ⟨⟨d, unhide HE2⟩, okE_all hk, hw⟩
  clear hev HS hk
  have HV := hide hsv
  clear hsv
  go_wp2_with (fail)
  have hR := runI_expr us hul lo hi uv e ka kc ta tc F (by omega) w2 (unhide HIN) (by omega) (unhide HU2) n' c' l' (unhide HEV)
  rw [← unhide HV] at hR
  refine hR.mono ?_
  rintro x w3 ⟨rfl, hb3⟩
  have HB3 := hide (below_trans (unhide HB2) hb3)
  clear hb3 hR HV HEV HIN
  go_wp2_with (fail)
  go_ret3
  exact ⟨rfl, unhide HB3⟩

set_option maxHeartbeats 1600000 in
set_option maxRecDepth 100000 in
theorem lawRun (d : Nat) (v uv : Value) (e : Ex) (us : List Uses.U) (f : Int) (w : World) (h : EV 0 w.heap.size w d v e) (hU : Uses.UR w uv us) (hul : us.length ≤ maxLen) (hus : ∀ u ∈ us, u.1.size ≤ maxLen) :
    Calls Try.prog 11 #[v, uv, .int .i64 f] w fun x w' => x = .returned (.bool true) ∧ Below w.heap.size w w' := by
  obtain ⟨ka, kc, ta, tc, rfl⟩ := h.form
  have hbox := Box.new w e ka kc ta tc 47
  have B0 := below_alloc w (.cells #[.int .i64 e.kind, .int .i64 e.num, .string e.meter, .slice ka e.kids.length kc, .slice ta e.tiers.length tc] 47)
  have h0 := keptE h (Nat.le_refl _) B0
  obtain ⟨W0, hW0⟩ : ∃ W0, w.alloc (.cells #[.int .i64 e.kind, .int .i64 e.num, .string e.meter, .slice ka e.kids.length kc, .slice ta e.tiers.length tc] 47) = W0 := ⟨_, rfl⟩
  rw [hW0] at hbox B0 h0
  have HW0 := hide hW0
  have hs0 : w.heap.size < W0.heap.size := by rw [← hW0]; simp
  have H0 := hide h0
  have X0 := hide hbox
  have BB0 := hide B0
  have UU0 := hide (hU.kept B0)
  have HUS := hide hus
  have HUL := hide hul
  obtain ⟨c0, c1, c2, c3, c4⟩ := hbox
  clear h hW0 h0 B0 hU hus hul
  go_enter Try.func11, Try.ntmps11
  go_wp2_with (fail)
  rw [unhide HW0]
  clear HW0
  refine (szE_all d 0 w.heap.size _ e 1048576 _ (unhide H0) (by omega) (by omega) (by omega)).mono ?_
  rintro x w1 ⟨r, rfl, r1, r2, hb1⟩
  have BB1 := hide (below_trans (unhide BB0) hb1)
  have X1 := hide ((unhide X0).kept hb1)
  have H1 := hide (keptE (unhide H0) (by omega) hb1)
  have UU1 := hide ((unhide UU0).kept hb1)
  have hs1 : w.heap.size < w1.heap.size := Nat.lt_of_lt_of_le hs0 hb1.size
  clear hb1 H0 X0 BB0 UU0 c0 c1 c2 c3 c4
  have R2 := hide r2
  clear r2
  by_cases hr : r < 0
  · go_wp2_with (fail)
    go_ret
    exact ⟨rfl, unhide BB1⟩
  have hw : wt e ≤ 1048576 := by have := unhide R2 (by omega); omega
  have hr2 : r ≤ 1048576 := by have := unhide R2 (by omega); omega
  have HWT := hide hw
  clear hw R2
  go_wp2_with (fail)
  refine (Uses.szUses _ us r _ (unhide UU1) (unhide HUL) (unhide HUS) (by omega) hr2).mono ?_
  rintro x w2 ⟨q, rfl, qq1, qq2, hb1⟩
  have BB2 := hide (below_trans (unhide BB1) hb1)
  have X2 := hide ((unhide X1).kept hb1)
  have H2 := hide (keptE (unhide H1) (by omega) hb1)
  have UU2 := hide ((unhide UU1).kept hb1)
  have hs2 : w.heap.size < w2.heap.size := Nat.lt_of_lt_of_le hs1 hb1.size
  clear hb1 H1 X1 BB1 UU1
  by_cases hq : q < 0
  · go_wp2_with (fail)
    go_ret
    exact ⟨rfl, unhide BB2⟩
  have hul2 : us.length ≤ 1048576 := by have := qq2 (by omega); omega
  clear qq2
  obtain ⟨c0, c1, c2, c3, c4⟩ := unhide X2
  go_wp2_with (fail)
  refine (toE_all d 0 w.heap.size _ e _ (unhide H2) (by omega) (unhide HWT)).mono ?_
  rintro x w3 ⟨v3, rfl, u3, hb1⟩
  have BB3 := hide (below_trans (unhide BB2) hb1)
  have X3 := hide ((unhide X2).kept hb1)
  have H3 := hide (keptE (unhide H2) (by omega) hb1)
  have UU3 := hide ((unhide UU2).kept hb1)
  have hs3 : w.heap.size < w3.heap.size := Nat.lt_of_lt_of_le hs2 hb1.size
  clear hb1 H2 X2 BB2 UU2
  have V3 := hide u3
  clear u3 c0 c1 c2 c3 c4
  go_wp2_with (fail)
  refine (Uses.toUses _ us _ (unhide UU3) hul2).mono ?_
  rintro x w4 ⟨v4, rfl, u4, hb1⟩
  have V4 := hide (keptE (unhide V3) (Nat.le_refl _) hb1)
  have hs34 := hb1.size
  have BB4 := hide (below_trans (unhide BB3) hb1)
  have X4 := hide ((unhide X3).kept hb1)
  have H4 := hide (keptE (unhide H3) (by omega) hb1)
  have UU4 := hide ((unhide UU3).kept hb1)
  have hs4 : w.heap.size < w4.heap.size := Nat.lt_of_lt_of_le hs3 hb1.size
  clear hb1 H3 X3 BB3 UU3
  have U4 := hide u4
  clear u4 V3
  go_wp2_with (fail)
  refine (runS us hul2 d _ _ _ _ e f _ (unhide V4) (by omega) (unhide HWT) (unhide U4)).mono ?_
  rintro x w5 ⟨sv, sc, st, rfl, hrun, hb1⟩
  have BB5 := hide (below_trans (unhide BB4) hb1)
  have X5 := hide ((unhide X4).kept hb1)
  have H5 := hide (keptE (unhide H4) (by omega) hb1)
  have UU5 := hide ((unhide UU4).kept hb1)
  have hs5 : w.heap.size < w5.heap.size := Nat.lt_of_lt_of_le hs4 hb1.size
  clear hb1 H4 X4 BB4 UU4
  have HRUN := hide hrun
  clear hrun V4 U4
  obtain ⟨c0, c1, c2, c3, c4⟩ := unhide X5
  go_wp2_with (fail)
  refine (toE_all d 0 w.heap.size _ e _ (unhide H5) (by omega) (unhide HWT)).mono ?_
  rintro x w6 ⟨v6, rfl, u6, hb1⟩
  obtain ⟨ka', kc', ta', tc', rfl⟩ := u6.form
  have BB6 := hide (below_trans (unhide BB5) hb1)
  have X6 := hide ((unhide X5).kept hb1)
  have H6 := hide (keptE (unhide H5) (by omega) hb1)
  have UU6 := hide ((unhide UU5).kept hb1)
  have hs6 : w.heap.size < w6.heap.size := Nat.lt_of_lt_of_le hs5 hb1.size
  clear hb1 H5 X5 BB5 UU5
  clear c0 c1 c2 c3 c4
  have hq7 := Box.new w6 e ka' kc' ta' tc' 26
  have hb1 := below_alloc w6 (.cells #[.int .i64 e.kind, .int .i64 e.num, .string e.meter, .slice ka' e.kids.length kc', .slice ta' e.tiers.length tc'] 26)
  have V7 := hide (keptE u6 (Nat.le_refl _) hb1)
  obtain ⟨w7, hw7⟩ : ∃ w7, w6.alloc (.cells #[.int .i64 e.kind, .int .i64 e.num, .string e.meter, .slice ka' e.kids.length kc', .slice ta' e.tiers.length tc'] 26) = w7 := ⟨_, rfl⟩
  rw [hw7] at hq7 hb1 V7
  have HW7 := hide hw7
  have Q7 := hide hq7
  have hs67 : w6.heap.size < w7.heap.size := by rw [← hw7]; simp
  have BB7 := hide (below_trans (unhide BB6) hb1)
  have X7 := hide ((unhide X6).kept hb1)
  have H7 := hide (keptE (unhide H6) (by omega) hb1)
  have UU7 := hide ((unhide UU6).kept hb1)
  have hs7 : w.heap.size < w7.heap.size := Nat.lt_of_lt_of_le hs6 hb1.size
  clear hb1 H6 X6 BB6 UU6
  clear u6 hw7 hq7
  go_wp2_with (fail)
  rw [unhide HW7]
  clear HW7
  refine (Uses.toUses _ us _ (unhide UU7) hul2).mono ?_
  rintro x w8 ⟨v8, rfl, u8, hb1⟩
  have V8 := hide (keptE (unhide V7) (by omega) hb1)
  have Q8 := hide ((unhide Q7).kept hb1)
  have hs78 := hb1.size
  have BB8 := hide (below_trans (unhide BB7) hb1)
  have X8 := hide ((unhide X7).kept hb1)
  have H8 := hide (keptE (unhide H7) (by omega) hb1)
  have UU8 := hide ((unhide UU7).kept hb1)
  have hs8 : w.heap.size < w8.heap.size := Nat.lt_of_lt_of_le hs7 hb1.size
  clear hb1 H7 X7 BB7 UU7
  have U8 := hide u8
  clear u8 V7 Q7
  obtain ⟨q0, q1, q2, q3, q4⟩ := unhide Q8
  go_wp2_with (fail)
  refine (runI us hul2 d _ _ _ _ e f _ (unhide V8) (by omega) (unhide HWT) (unhide U8) sv sc st (unhide HRUN)).mono ?_
  rintro x w9 ⟨rfl, hb1⟩
  have V9 := hide (keptE (unhide V8) (by omega) hb1)
  have Q9 := (unhide Q8).kept hb1
  have U9 := hide ((unhide U8).kept hb1)
  have hs89 := hb1.size
  have BB9 := hide (below_trans (unhide BB8) hb1)
  have X9 := hide ((unhide X8).kept hb1)
  have H9 := hide (keptE (unhide H8) (by omega) hb1)
  have UU9 := hide ((unhide UU8).kept hb1)
  have hs9 : w.heap.size < w9.heap.size := Nat.lt_of_lt_of_le hs8 hb1.size
  clear hb1 H8 X8 BB8 UU8
  clear q0 q1 q2 q3 q4 V8 Q8 U8 HRUN
  obtain ⟨c0, c1, c2, c3, c4⟩ := unhide X9
  obtain ⟨q0, q1, q2, q3, q4⟩ := Q9
  have hx1 : (sv != sv) = false := by simp
  have hx2 : (sc != sc) = false := by simp
  have hx3 : (st != st) = false := by simp
  have y1 : w.heap.size < w9.heap.size := by omega
  have y2 : w6.heap.size < w9.heap.size := by omega
  go_wp2_with (fail)
  go_region_held3 (fun ww => (ww.cell? ⟨w.heap.size, 0, none⟩ = some (.int .i64 e.kind) ∧ ww.cell? ⟨w.heap.size, 1, none⟩ = some (.int .i64 e.num) ∧ ww.cell? ⟨w.heap.size, 2, none⟩ = some (.string e.meter) ∧ ww.cell? ⟨w.heap.size, 3, none⟩ = some (.slice ka e.kids.length kc) ∧ ww.cell? ⟨w.heap.size, 4, none⟩ = some (.slice ta e.tiers.length tc)) ∧ ww.cell? ⟨w6.heap.size, 0, none⟩ = some (.int .i64 e.kind) ∧ ww.cell? ⟨w6.heap.size, 1, none⟩ = some (.int .i64 e.num) ∧ ww.cell? ⟨w6.heap.size, 2, none⟩ = some (.string e.meter) ∧ ww.cell? ⟨w6.heap.size, 3, none⟩ = some (.slice ka' e.kids.length kc') ∧ ww.cell? ⟨w6.heap.size, 4, none⟩ = some (.slice ta' e.tiers.length tc')) (go_keep)
    (first | (go_at_call 23; refine (toE_all d 0 w.heap.size _ e w9.drew ((unhide H9).kept (fun _ _ _ => rfl)) (by show _ ≤ w9.heap.size; omega) (unhide HWT)).mono ?_; rintro x wk ⟨v7, rfl, u7, hb7'⟩; have hb7 : Below w9.heap.size w9 wk := ⟨hb7'.os, hb7'.tape, hb7'.output, hb7'.size, hb7'.block⟩; clear hb7'; have p0 := (hb7.cell (p := ⟨w.heap.size, 0, none⟩) y1).trans c0; have p1 := (hb7.cell (p := ⟨w.heap.size, 1, none⟩) y1).trans c1; have p2 := (hb7.cell (p := ⟨w.heap.size, 2, none⟩) y1).trans c2; have p3 := (hb7.cell (p := ⟨w.heap.size, 3, none⟩) y1).trans c3; have p4 := (hb7.cell (p := ⟨w.heap.size, 4, none⟩) y1).trans c4; have o0 := (hb7.cell (p := ⟨w6.heap.size, 0, none⟩) y2).trans q0; have o1 := (hb7.cell (p := ⟨w6.heap.size, 1, none⟩) y2).trans q1; have o2 := (hb7.cell (p := ⟨w6.heap.size, 2, none⟩) y2).trans q2; have o3 := (hb7.cell (p := ⟨w6.heap.size, 3, none⟩) y2).trans q3; have o4 := (hb7.cell (p := ⟨w6.heap.size, 4, none⟩) y2).trans q4) | (go_at_call 25; refine (eqE_all d _ _ _ _ d _ _ e wk (keptE (unhide V9) (by omega) hb7) u7 (by have := hb7.size; omega) (Nat.le_refl _) (unhide HWT)).mono ?_; rintro x w10 ⟨rfl, hbb'⟩; have hbb : Below w9.heap.size w9 w10 := below_trans hb7 hbb'; clear hbb'; have p0 := (hbb.cell (p := ⟨w.heap.size, 0, none⟩) y1).trans c0; have p1 := (hbb.cell (p := ⟨w.heap.size, 1, none⟩) y1).trans c1; have p2 := (hbb.cell (p := ⟨w.heap.size, 2, none⟩) y1).trans c2; have p3 := (hbb.cell (p := ⟨w.heap.size, 3, none⟩) y1).trans c3; have p4 := (hbb.cell (p := ⟨w.heap.size, 4, none⟩) y1).trans c4; have o0 := (hbb.cell (p := ⟨w6.heap.size, 0, none⟩) y2).trans q0; have o1 := (hbb.cell (p := ⟨w6.heap.size, 1, none⟩) y2).trans q1; have o2 := (hbb.cell (p := ⟨w6.heap.size, 2, none⟩) y2).trans q2; have o3 := (hbb.cell (p := ⟨w6.heap.size, 3, none⟩) y2).trans q3; have o4 := (hbb.cell (p := ⟨w6.heap.size, 4, none⟩) y2).trans q4))
  have hs9b := hbb.size
  have U10 := hide ((unhide U9).kept hbb)
  have UU10 := hide ((unhide UU9).kept hbb)
  have BB10 := hide (below_trans (unhide BB9) hbb)
  clear hb7 hbb p0 p1 p2 p3 p4 o0 o1 o2 o3 o4 c0 c1 c2 c3 c4 q0 q1 q2 q3 q4 u7 U9 UU9 BB9
  go_wp2_with (fail)
  refine (Uses.toUses _ us _ (unhide UU10) hul2).mono ?_
  rintro x w11 ⟨v11, rfl, u11, hb1⟩
  have U11 := hide ((unhide U10).kept hb1)
  have BB11 := hide (below_trans (unhide BB10) hb1)
  have V11 := hide u11
  clear hb1 u11 U10 UU10 BB10
  go_wp2_with (fail)
  refine (Uses.eqUses _ _ us _ (unhide U11) (unhide V11) hul2).mono ?_
  rintro x w12 ⟨rfl, hb1⟩
  have BB12 := hide (below_trans (unhide BB11) hb1)
  clear hb1 BB11 U11 V11
  go_wp2_with (fail)
  go_ret
  exact ⟨rfl, unhide BB12⟩
end Go.Proofs.Ytjjfmpinekiheaa.Rule
