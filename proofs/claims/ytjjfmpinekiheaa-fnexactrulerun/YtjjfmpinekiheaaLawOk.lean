/-
  The law on RuleOk.
-/
import Derived.Test.YtjjfmpinekiheaaOkI3
import Derived.Test.YtjjfmpinekiheaaEqE
namespace Go.Proofs.Ytjjfmpinekiheaa.Rule
set_option linter.unusedVariables false
open Go.RowKit Tiers

/-- the value of an expression, written out -/
abbrev exV (e : Ex) (ka : Option Addr) (kc : Nat) (ta : Option Addr) (tc : Nat) : Value := .agg #[.int .i64 e.kind, .int .i64 e.num, .string e.meter, .slice ka e.kids.length kc, .slice ta e.tiers.length tc]
theorem EV.form {lo hi : Nat} {W : World} {d : Nat} {v : Value} {e : Ex} (h : EV lo hi W d v e) : ∃ ka kc ta tc, v = exV e ka kc ta tc := by
  obtain ⟨kv, tv, rfl, hz, hk, ht⟩ := h
  obtain ⟨ta, tc, rfl⟩ := ht.form
  obtain ⟨ka, kc, rfl, _⟩ := hk.form
  exact ⟨_, _, _, _, rfl⟩
/-- a box that holds an expression -/
def Box (W : World) (B : Nat) (e : Ex) (ka : Option Addr) (kc : Nat) (ta : Option Addr) (tc : Nat) : Prop :=
  W.cell? ⟨B, 0, none⟩ = some (.int .i64 e.kind) ∧ W.cell? ⟨B, 1, none⟩ = some (.int .i64 e.num) ∧ W.cell? ⟨B, 2, none⟩ = some (.string e.meter) ∧ W.cell? ⟨B, 3, none⟩ = some (.slice ka e.kids.length kc) ∧ W.cell? ⟨B, 4, none⟩ = some (.slice ta e.tiers.length tc)
theorem Box.kept {W W' : World} {B : Nat} {e : Ex} {ka : Option Addr} {kc : Nat} {ta : Option Addr} {tc : Nat} (h : Box W B e ka kc ta tc) (hb : Below W.heap.size W W') : Box W' B e ka kc ta tc := by
  have hB := lt_of_cell h.1
  exact ⟨(hb.cell (p := ⟨B, 0, none⟩) hB).trans h.1, (hb.cell (p := ⟨B, 1, none⟩) hB).trans h.2.1, (hb.cell (p := ⟨B, 2, none⟩) hB).trans h.2.2.1, (hb.cell (p := ⟨B, 3, none⟩) hB).trans h.2.2.2.1, (hb.cell (p := ⟨B, 4, none⟩) hB).trans h.2.2.2.2⟩
theorem Box.new (w : World) (e : Ex) (ka : Option Addr) (kc : Nat) (ta : Option Addr) (tc : Nat) (t : TypeId) : Box (w.alloc (.cells #[.int .i64 e.kind, .int .i64 e.num, .string e.meter, .slice ka e.kids.length kc, .slice ta e.tiers.length tc] t)) w.heap.size e ka kc ta tc := new5 w _ _ _ _ _ t
theorem keptE {lo hi : Nat} {W W' : World} {d : Nat} {v : Value} {e : Ex} (h : EV lo hi W d v e) (hh : hi ≤ W.heap.size) (hb : Below W.heap.size W W') : EV lo hi W' d v e := h.kept (same_below hb hh)

set_option maxHeartbeats 1600000 in
theorem lawOk (d : Nat) (v : Value) (e : Ex) (w : World) (h : EV 0 w.heap.size w d v e) :
    Calls Try.prog 7 #[v] w fun x w' => x = .returned (.bool true) ∧ Below w.heap.size w w' := by
  obtain ⟨ka, kc, ta, tc, rfl⟩ := h.form
  have hbox := Box.new w e ka kc ta tc 47
  have B0 := below_alloc w (.cells #[.int .i64 e.kind, .int .i64 e.num, .string e.meter, .slice ka e.kids.length kc, .slice ta e.tiers.length tc] 47)
  have h0 := keptE h (Nat.le_refl _) B0
  obtain ⟨W0, hW0⟩ : ∃ W0, w.alloc (.cells #[.int .i64 e.kind, .int .i64 e.num, .string e.meter, .slice ka e.kids.length kc, .slice ta e.tiers.length tc] 47) = W0 := ⟨_, rfl⟩
  rw [hW0] at hbox B0 h0
  have HW0 := hide hW0
  have hs0 : w.heap.size < W0.heap.size := by rw [← hW0]; simp
  have H0 := hide h0
  have X0 := hide hbox
  have BB0 := hide B0
  obtain ⟨c0, c1, c2, c3, c4⟩ := hbox
  clear h hW0 h0 B0
  go_enter Try.func7, Try.ntmps7
  go_wp2_with (fail)
  rw [unhide HW0]
  clear HW0
  refine (szE_all d 0 w.heap.size _ e 1048576 _ (unhide H0) (by omega) (by omega) (by omega)).mono ?_
  rintro x w1 ⟨r, rfl, r1, r2, hb1⟩
  have B1 := hide (below_trans (unhide BB0) hb1)
  have X1 := hide ((unhide X0).kept hb1)
  have H1 := hide (keptE (unhide H0) (by omega) hb1)
  have R2 := hide r2
  have hs1 : w.heap.size < w1.heap.size := Nat.lt_of_lt_of_le hs0 hb1.size
  clear c0 c1 c2 c3 c4 hb1 H0 X0 BB0 r2
  by_cases hr : r < 0
  · go_wp2_with (fail)
    go_ret
    exact ⟨rfl, unhide B1⟩
  have hw : wt e ≤ 1048576 := by have := unhide R2 (by omega); omega
  have HWT := hide hw
  clear hw R2
  obtain ⟨c0, c1, c2, c3, c4⟩ := unhide X1
  go_wp2_with (fail)
  refine (toE_all d 0 w.heap.size _ e _ (unhide H1) (by omega) (unhide HWT)).mono ?_
  rintro x w2 ⟨v2, rfl, u2, hb2⟩
  have B2 := hide (below_trans (unhide B1) hb2)
  have X2 := hide ((unhide X1).kept hb2)
  have H2 := hide (keptE (unhide H1) (by omega) hb2)
  have U2 := hide u2
  have hs2 : w.heap.size < w2.heap.size := Nat.lt_of_lt_of_le hs1 hb2.size
  clear c0 c1 c2 c3 c4 hb2 H1 X1 B1 u2
  go_wp2_with (fail)
  refine (okS d _ _ _ e _ (unhide U2) (Nat.le_refl _) (unhide HWT)).mono ?_
  rintro x w3 ⟨rfl, hb3⟩
  have B3 := hide (below_trans (unhide B2) hb3)
  have X3 := hide ((unhide X2).kept hb3)
  have H3 := hide (keptE (unhide H2) (by omega) hb3)
  have hs3 : w.heap.size < w3.heap.size := Nat.lt_of_lt_of_le hs2 hb3.size
  clear hb3 H2 X2 B2 U2
  obtain ⟨c0, c1, c2, c3, c4⟩ := unhide X3
  go_wp2_with (fail)
  refine (toE_all d 0 w.heap.size _ e _ (unhide H3) (by omega) (unhide HWT)).mono ?_
  rintro x w4 ⟨v4, rfl, u4, hb4⟩
  obtain ⟨ka', kc', ta', tc', rfl⟩ := u4.form
  have B4 := hide (below_trans (unhide B3) hb4)
  have X4 := hide ((unhide X3).kept hb4)
  have H4 := hide (keptE (unhide H3) (by omega) hb4)
  have hs4 : w.heap.size < w4.heap.size := Nat.lt_of_lt_of_le hs3 hb4.size
  have hq5 := Box.new w4 e ka' kc' ta' tc' 26
  have hb5 := below_alloc w4 (.cells #[.int .i64 e.kind, .int .i64 e.num, .string e.meter, .slice ka' e.kids.length kc', .slice ta' e.tiers.length tc'] 26)
  have U5 := hide (keptE u4 (Nat.le_refl _) hb5)
  obtain ⟨w5, hw5⟩ : ∃ w5, w4.alloc (.cells #[.int .i64 e.kind, .int .i64 e.num, .string e.meter, .slice ka' e.kids.length kc', .slice ta' e.tiers.length tc'] 26) = w5 := ⟨_, rfl⟩
  rw [hw5] at hq5 hb5 U5
  have HW5 := hide hw5
  have Q5 := hide hq5
  have B5 := hide (below_trans (unhide B4) hb5)
  have X5 := hide ((unhide X4).kept hb5)
  have H5 := hide (keptE (unhide H4) (by omega) hb5)
  have hs5 : w4.heap.size < w5.heap.size := by rw [← hw5]; simp
  clear c0 c1 c2 c3 c4 hb4 hb5 H3 X3 B3 B4 X4 H4 u4 hw5
  obtain ⟨q0, q1, q2, q3, q4⟩ := hq5
  go_wp2_with (fail)
  rw [unhide HW5]
  clear HW5
  refine (okI d _ _ _ e _ (unhide U5) (by omega) (unhide HWT)).mono ?_
  rintro x w6 ⟨rfl, hb6⟩
  have B6 := hide (below_trans (unhide B5) hb6)
  have X6 := (unhide X5).kept hb6
  have Q6 := (unhide Q5).kept hb6
  have H6 := hide (keptE (unhide H5) (by omega) hb6)
  have U6 := hide (keptE (unhide U5) (by omega) hb6)
  have hs6 : w5.heap.size ≤ w6.heap.size := hb6.size
  clear q0 q1 q2 q3 q4 hb6 H5 X5 B5 Q5 U5
  obtain ⟨c0, c1, c2, c3, c4⟩ := X6
  obtain ⟨q0, q1, q2, q3, q4⟩ := Q6
  have hx : ((okE e) != (okE e)) = false := by simp
  generalize okE e = z at *
  have y1 : w.heap.size < w6.heap.size := by omega
  have y2 : w4.heap.size < w6.heap.size := by omega
  go_wp2_with (fail)
  go_region_held3 (fun ww => (ww.cell? ⟨w.heap.size, 0, none⟩ = some (.int .i64 e.kind) ∧ ww.cell? ⟨w.heap.size, 1, none⟩ = some (.int .i64 e.num) ∧ ww.cell? ⟨w.heap.size, 2, none⟩ = some (.string e.meter) ∧ ww.cell? ⟨w.heap.size, 3, none⟩ = some (.slice ka e.kids.length kc) ∧ ww.cell? ⟨w.heap.size, 4, none⟩ = some (.slice ta e.tiers.length tc)) ∧ ww.cell? ⟨w4.heap.size, 0, none⟩ = some (.int .i64 e.kind) ∧ ww.cell? ⟨w4.heap.size, 1, none⟩ = some (.int .i64 e.num) ∧ ww.cell? ⟨w4.heap.size, 2, none⟩ = some (.string e.meter) ∧ ww.cell? ⟨w4.heap.size, 3, none⟩ = some (.slice ka' e.kids.length kc') ∧ ww.cell? ⟨w4.heap.size, 4, none⟩ = some (.slice ta' e.tiers.length tc')) (go_keep)
    (first | (go_at_call 23; refine (toE_all d 0 w.heap.size _ e w6.drew ((unhide H6).kept (fun _ _ _ => rfl)) (by show _ ≤ w6.heap.size; omega) (unhide HWT)).mono ?_; rintro x w7 ⟨v7, rfl, u7, hb7'⟩; have hb7 : Below w6.heap.size w6 w7 := ⟨hb7'.os, hb7'.tape, hb7'.output, hb7'.size, hb7'.block⟩; clear hb7'; have p0 := (hb7.cell (p := ⟨w.heap.size, 0, none⟩) y1).trans c0; have p1 := (hb7.cell (p := ⟨w.heap.size, 1, none⟩) y1).trans c1; have p2 := (hb7.cell (p := ⟨w.heap.size, 2, none⟩) y1).trans c2; have p3 := (hb7.cell (p := ⟨w.heap.size, 3, none⟩) y1).trans c3; have p4 := (hb7.cell (p := ⟨w.heap.size, 4, none⟩) y1).trans c4; have o0 := (hb7.cell (p := ⟨w4.heap.size, 0, none⟩) y2).trans q0; have o1 := (hb7.cell (p := ⟨w4.heap.size, 1, none⟩) y2).trans q1; have o2 := (hb7.cell (p := ⟨w4.heap.size, 2, none⟩) y2).trans q2; have o3 := (hb7.cell (p := ⟨w4.heap.size, 3, none⟩) y2).trans q3; have o4 := (hb7.cell (p := ⟨w4.heap.size, 4, none⟩) y2).trans q4) | (go_at_call 25; refine (eqE_all d _ _ _ _ d _ _ e w7 (keptE (unhide U6) (by omega) hb7) u7 (by have := hb7.size; omega) (Nat.le_refl _) (unhide HWT)).mono ?_; rintro x w8 ⟨rfl, hb8'⟩; have hb8 : Below w6.heap.size w6 w8 := below_trans hb7 hb8'; clear hb8'; have p0 := (hb8.cell (p := ⟨w.heap.size, 0, none⟩) y1).trans c0; have p1 := (hb8.cell (p := ⟨w.heap.size, 1, none⟩) y1).trans c1; have p2 := (hb8.cell (p := ⟨w.heap.size, 2, none⟩) y1).trans c2; have p3 := (hb8.cell (p := ⟨w.heap.size, 3, none⟩) y1).trans c3; have p4 := (hb8.cell (p := ⟨w.heap.size, 4, none⟩) y1).trans c4; have o0 := (hb8.cell (p := ⟨w4.heap.size, 0, none⟩) y2).trans q0; have o1 := (hb8.cell (p := ⟨w4.heap.size, 1, none⟩) y2).trans q1; have o2 := (hb8.cell (p := ⟨w4.heap.size, 2, none⟩) y2).trans q2; have o3 := (hb8.cell (p := ⟨w4.heap.size, 3, none⟩) y2).trans q3; have o4 := (hb8.cell (p := ⟨w4.heap.size, 4, none⟩) y2).trans q4))
  have B8 := hide (below_trans (unhide B6) hb8)
  clear hb7 hb8 p0 p1 p2 p3 p4 o0 o1 o2 o3 o4 c0 c1 c2 c3 c4 q0 q1 q2 q3 q4 u7
  go_wp2_with (fail)
  go_ret
  exact ⟨rfl, unhide B8⟩
end Go.Proofs.Ytjjfmpinekiheaa.Rule
