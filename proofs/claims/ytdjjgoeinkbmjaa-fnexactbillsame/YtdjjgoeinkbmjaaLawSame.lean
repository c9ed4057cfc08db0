/-
  The law on BillSame.
-/
import Derived.Test.YtdjjgoeinkbmjaaSameS2
import Derived.Test.YtdjjgoeinkbmjaaSameI
namespace Go.Proofs.Ytdjjgoeinkbmjaa.Bills
set_option linter.unusedVariables false
open Go.RowKit
open Evs (E E0 ER EN EC EOwn)
open BRow (R R0 RR RN RC ROwn)

theorem bv_form {W : World} {v : Value} {x : B} (h : BV W v x) : ∃ ta tc ea ec ia ic, v = .agg #[.slice ta x.tar.length tc, .slice ea x.evs.length ec, .slice ia x.invs.length ic, .int .i64 x.paid] := by
  obtain ⟨tv, ev, iv, rfl, h1, h2, h3⟩ := h
  obtain ⟨ta, tc, rfl⟩ := h1.slice
  obtain ⟨ea, ec, rfl⟩ := h2.slice
  obtain ⟨ia, ic, rfl⟩ := h3.slice
  exact ⟨_, _, _, _, _, _, rfl⟩

theorem below_todrew {B : Nat} {a w : World} (h : Below B a w) : Below B a w.drew := ⟨h.os, h.tape, h.output, h.size, h.block⟩

set_option maxRecDepth 20000 in
set_option maxHeartbeats 3200000 in
theorem lawSame (v v' : Value) (x y : B) (w : World) (h : BV w v x) (h' : BV w v' y) (hf : FineB x) (hf' : FineB y) :
    Calls Try.prog 9 #[v, v'] w fun e w' => e = .returned (.bool true) ∧ Below w.heap.size w w' := by
  obtain ⟨ta, tc, ea, ec, ia, ic, rfl⟩ := bv_form h
  obtain ⟨ta', tc', ea', ec', ia', ic', rfl⟩ := bv_form h'
  have HX := hide h
  have HY := hide h'
  have HF := hide hf
  have HF' := hide hf'
  clear h h' hf hf'
  go_enter Try.func9, Try.ntmps9
  go_wp2_with (fail)
  refine (szBill _ x 1048576 _ ((unhide HX).kept (below2 _ _ _)) (unhide HF) (by omega) (by omega)).mono ?_
  rintro e w1 ⟨r, rfl, r1, r2, r3, hb1⟩
  obtain ⟨a1, a2, hB, hz⟩ := Boxes.box2 hb1
  have HB := hide hB
  have A1 := hide a1
  have A2 := hide a2
  have R3 := hide r3
  have d0 := (a2 0 _ rfl).1
  have d1 := (a2 1 _ rfl).1
  have d2 := (a2 2 _ rfl).1
  have d3 := (a2 3 _ rfl).1
  clear hb1 hB a1 a2 r3
  by_cases hr : r < 0
  · go_wp2_with (fail)
    go_ret
    exact ⟨rfl, unhide HB⟩
  have FX := hide (unhide R3 (by omega))
  clear R3
  go_wp2_with (fail)
  refine (szBill _ y r _ ((unhide HY).kept (unhide HB)) (unhide HF') (by omega) (by omega)).mono ?_
  rintro e w2 ⟨r', rfl, r1', r2', r3', hb2⟩
  have HB2 := hide (below_trans (unhide HB) hb2)
  have a1 := (unhide A1).below hb2 (by omega)
  have a2 := (unhide A2).below hb2 (by omega)
  have hz2 : w.heap.size + 2 ≤ w2.heap.size := Nat.le_trans hz hb2.size
  have R3 := hide r3'
  clear A1 A2 hb2 HB d0 d1 d2 d3 r3'
  by_cases hr' : r' < 0
  · clear a1 a2
    go_wp2_with (fail)
    go_ret
    exact ⟨rfl, unhide HB2⟩
  have FY := hide (unhide R3 (by omega))
  clear R3
  have A1 := hide a1
  have A2 := hide a2
  have c0 := (a1 0 _ rfl).1
  have c1 := (a1 1 _ rfl).1
  have c2 := (a1 2 _ rfl).1
  have c3 := (a1 3 _ rfl).1
  have d0 := (a2 0 _ rfl).1
  have d1 := (a2 1 _ rfl).1
  have d2 := (a2 2 _ rfl).1
  have d3 := (a2 3 _ rfl).1
  clear a1 a2 r1 r2 r1' r2'
  have y1 : w.heap.size < w2.heap.size := by omega
  have y2 : w.heap.size + 1 < w2.heap.size := by omega
  go_wp2_with (fail)
  go_region_held3 (fun ww => ww.cell? ⟨w.heap.size, 0, none⟩ = some (.slice ta x.tar.length tc) ∧ ww.cell? ⟨w.heap.size, 1, none⟩ = some (.slice ea x.evs.length ec) ∧ ww.cell? ⟨w.heap.size, 2, none⟩ = some (.slice ia x.invs.length ic) ∧ ww.cell? ⟨w.heap.size, 3, none⟩ = some (.int .i64 x.paid) ∧ ww.cell? ⟨w.heap.size + 1, 0, none⟩ = some (.slice ta' y.tar.length tc') ∧ ww.cell? ⟨w.heap.size + 1, 1, none⟩ = some (.slice ea' y.evs.length ec') ∧ ww.cell? ⟨w.heap.size + 1, 2, none⟩ = some (.slice ia' y.invs.length ic') ∧ ww.cell? ⟨w.heap.size + 1, 3, none⟩ = some (.int .i64 y.paid)) (go_keep) (first | (go_at_call 41; have hg := hb3; clear hg; refine (toBill (.agg #[.slice ta' y.tar.length tc', .slice ea' y.evs.length ec', .slice ia' y.invs.length ic', .int .i64 y.paid]) y w3 ((unhide HY).kept (below_trans (unhide HB2) hb3)) (unhide FY)).mono ?_; rintro e w4 ⟨v4, rfl, u4, hb4'⟩; have hb4 : Below w2.heap.size w2 w4 := below_trans hb3 hb4'; have u3' := u3.kept hb4'; clear hb4'; have pb0 := (hb4.cell (p := ⟨w.heap.size, 0, none⟩) y1).trans c0; have pb1 := (hb4.cell (p := ⟨w.heap.size, 1, none⟩) y1).trans c1; have pb2 := (hb4.cell (p := ⟨w.heap.size, 2, none⟩) y1).trans c2; have pb3 := (hb4.cell (p := ⟨w.heap.size, 3, none⟩) y1).trans c3; have qb0 := (hb4.cell (p := ⟨w.heap.size + 1, 0, none⟩) y2).trans d0; have qb1 := (hb4.cell (p := ⟨w.heap.size + 1, 1, none⟩) y2).trans d1; have qb2 := (hb4.cell (p := ⟨w.heap.size + 1, 2, none⟩) y2).trans d2; have qb3 := (hb4.cell (p := ⟨w.heap.size + 1, 3, none⟩) y2).trans d3) | (go_at_call 41; refine (toBill (.agg #[.slice ta x.tar.length tc, .slice ea x.evs.length ec, .slice ia x.invs.length ic, .int .i64 x.paid]) x w2.drew ((unhide HX).kept (below_todrew (unhide HB2))) (unhide FX)).mono ?_; rintro e w3 ⟨v3, rfl, u3, hb3'⟩; have hb3 : Below w2.heap.size w2 w3 := below_of_drew hb3'; clear hb3'; have pa0 := (hb3.cell (p := ⟨w.heap.size, 0, none⟩) y1).trans c0; have pa1 := (hb3.cell (p := ⟨w.heap.size, 1, none⟩) y1).trans c1; have pa2 := (hb3.cell (p := ⟨w.heap.size, 2, none⟩) y1).trans c2; have pa3 := (hb3.cell (p := ⟨w.heap.size, 3, none⟩) y1).trans c3; have qa0 := (hb3.cell (p := ⟨w.heap.size + 1, 0, none⟩) y2).trans d0; have qa1 := (hb3.cell (p := ⟨w.heap.size + 1, 1, none⟩) y2).trans d1; have qa2 := (hb3.cell (p := ⟨w.heap.size + 1, 2, none⟩) y2).trans d2; have qa3 := (hb3.cell (p := ⟨w.heap.size + 1, 3, none⟩) y2).trans d3) | (go_at_call 40; refine (sameS v3 v4 x y w4 u3' u4 (unhide FX) (unhide FY)).mono ?_; rintro e w5 ⟨rfl, hb5'⟩; have hb5 : Below w2.heap.size w2 w5 := below_trans hb4 hb5'; clear hb5'; have pe0 := (hb5.cell (p := ⟨w.heap.size, 0, none⟩) y1).trans c0; have pe1 := (hb5.cell (p := ⟨w.heap.size, 1, none⟩) y1).trans c1; have pe2 := (hb5.cell (p := ⟨w.heap.size, 2, none⟩) y1).trans c2; have pe3 := (hb5.cell (p := ⟨w.heap.size, 3, none⟩) y1).trans c3; have qe0 := (hb5.cell (p := ⟨w.heap.size + 1, 0, none⟩) y2).trans d0; have qe1 := (hb5.cell (p := ⟨w.heap.size + 1, 1, none⟩) y2).trans d1; have qe2 := (hb5.cell (p := ⟨w.heap.size + 1, 2, none⟩) y2).trans d2; have qe3 := (hb5.cell (p := ⟨w.heap.size + 1, 3, none⟩) y2).trans d3))
  have HB5 := hide (below_trans (unhide HB2) hb5)
  have a1 := (unhide A1).below hb5 (by omega)
  have a2 := (unhide A2).below hb5 (by omega)
  have hz5 : w.heap.size + 2 ≤ w5.heap.size := Nat.le_trans hz2 hb5.size
  clear c0 c1 c2 c3 d0 d1 d2 d3 pa0 pa1 pa2 pa3 qa0 qa1 qa2 qa3 pb0 pb1 pb2 pb3 qb0 qb1 qb2 qb3 qe0 qe1 qe2 qe3 pe0 pe1 pe2 pe3 hb3 hb4 hb5 u3 u3' u4 A1 A2 y1 y2
  have A1 := hide a1
  have A2 := hide a2
  have c0 := (a1 0 _ rfl).1
  have c1 := (a1 1 _ rfl).1
  have c2 := (a1 2 _ rfl).1
  have c3 := (a1 3 _ rfl).1
  clear a1 a2
  generalize hd : decide (x = y) = d
  have HD := hide hd
  clear hd
  go_wp2_with (fail)
  refine (toBill _ x _ ((unhide HX).kept (unhide HB5)) (unhide FX)).mono ?_
  rintro e w6 ⟨v6, rfl, u6, hb6⟩
  have HB6 := hide (below_trans (unhide HB5) hb6)
  have a1 := (unhide A1).below hb6 (by omega)
  have a2 := (unhide A2).below hb6 (by omega)
  have hz6 : w.heap.size + 2 ≤ w6.heap.size := Nat.le_trans hz5 hb6.size
  have U6 := hide u6
  obtain ⟨xa, xc, xea, xec, xia, xic, rfl⟩ := bv_form u6
  clear c0 c1 c2 c3 A1 A2 hb6 HB5 u6
  have A1 := hide a1
  have A2 := hide a2
  have d0 := (a2 0 _ rfl).1
  have d1 := (a2 1 _ rfl).1
  have d2 := (a2 2 _ rfl).1
  have d3 := (a2 3 _ rfl).1
  clear a1 a2
  have y2 : w.heap.size + 1 < w6.heap.size := by omega
  have bb6 := below_alloc w6 (.cells #[.slice xa x.tar.length xc, .slice xea x.evs.length xec, .slice xia x.invs.length xic, .int .i64 x.paid] 73)
  go_wp2_with (fail)
  refine (toBill _ y _ ((unhide HY).kept (below_trans (unhide HB6) bb6)) (unhide FY)).mono ?_
  rintro e w7 ⟨v7, rfl, u7, hb7⟩
  obtain ⟨a3, hB7, hz7⟩ := Boxes.box1 hb7
  have HB7 := hide (below_trans (unhide HB6) hB7)
  have a1 := (unhide A1).below hB7 (by omega)
  have a2 := (unhide A2).below hB7 (by omega)
  have U67 := hide ((unhide U6).kept hB7)
  have U7 := hide u7
  obtain ⟨ya, yc, yea, yec, yia, yic, rfl⟩ := bv_form u7
  clear d0 d1 d2 d3 A1 A2 hb7 HB6 u7 U6 y2 bb6 hB7
  have A1 := hide a1
  have A2 := hide a2
  have A3 := hide a3
  have y3 : w6.heap.size < w7.heap.size := by omega
  have bb7 := below_alloc w7 (.cells #[.slice ya y.tar.length yc, .slice yea y.evs.length yec, .slice yia y.invs.length yic, .int .i64 y.paid] 73)
  have e0 := (a3 0 _ rfl).1
  have e1 := (a3 1 _ rfl).1
  have e2 := (a3 2 _ rfl).1
  have e3 := (a3 3 _ rfl).1
  clear a1 a2 a3
  go_wp2_with (fail)
  refine (sameI _ _ x y _ ((unhide U67).kept bb7) ((unhide U7).kept bb7) (unhide FX) (unhide FY)).mono ?_
  rintro e w8 ⟨rfl, hb8⟩
  rw [unhide HD]
  obtain ⟨a4, hB8, hz8⟩ := Boxes.box1 hb8
  have HB8 := hide (below_trans (unhide HB7) hB8)
  have a1 := (unhide A1).below hB8 (by omega)
  have a2 := (unhide A2).below hB8 (by omega)
  have a3 := (unhide A3).below hB8 (by omega)
  have U68 := hide ((unhide U67).kept hB8)
  have U78 := hide ((unhide U7).kept hB8)
  clear e0 e1 e2 e3 A1 A2 A3 hb8 HB7 U67 U7 y3 bb7 hB8 HD
  have A1 := hide a1
  have A2 := hide a2
  have A3 := hide a3
  have A4 := hide a4
  have dd : (d != d) = false := by simp
  have c0 := (a1 0 _ rfl).1
  have c1 := (a1 1 _ rfl).1
  have c2 := (a1 2 _ rfl).1
  have c3 := (a1 3 _ rfl).1
  have e0 := (a3 0 _ rfl).1
  have e1 := (a3 1 _ rfl).1
  have e2 := (a3 2 _ rfl).1
  have e3 := (a3 3 _ rfl).1
  clear a1 a2 a3 a4
  have y1 : w.heap.size < w8.heap.size := by omega
  have y2 : w6.heap.size < w8.heap.size := by omega
  go_wp2_with (fail)
  go_region_held3 (fun ww => ww.cell? ⟨w.heap.size, 0, none⟩ = some (.slice ta x.tar.length tc) ∧ ww.cell? ⟨w.heap.size, 1, none⟩ = some (.slice ea x.evs.length ec) ∧ ww.cell? ⟨w.heap.size, 2, none⟩ = some (.slice ia x.invs.length ic) ∧ ww.cell? ⟨w.heap.size, 3, none⟩ = some (.int .i64 x.paid) ∧ ww.cell? ⟨w6.heap.size, 0, none⟩ = some (.slice xa x.tar.length xc) ∧ ww.cell? ⟨w6.heap.size, 1, none⟩ = some (.slice xea x.evs.length xec) ∧ ww.cell? ⟨w6.heap.size, 2, none⟩ = some (.slice xia x.invs.length xic) ∧ ww.cell? ⟨w6.heap.size, 3, none⟩ = some (.int .i64 x.paid)) (go_keep) (first | (go_at_call 41; refine (toBill (.agg #[.slice ta x.tar.length tc, .slice ea x.evs.length ec, .slice ia x.invs.length ic, .int .i64 x.paid]) x w8.drew ((unhide HX).kept (below_todrew (unhide HB8))) (unhide FX)).mono ?_; rintro e w91 ⟨v91, rfl, u91, hb91'⟩; have hb91 : Below w8.heap.size w8 w91 := below_of_drew hb91'; clear hb91'; have pa0 := (hb91.cell (p := ⟨w.heap.size, 0, none⟩) y1).trans c0; have pa1 := (hb91.cell (p := ⟨w.heap.size, 1, none⟩) y1).trans c1; have pa2 := (hb91.cell (p := ⟨w.heap.size, 2, none⟩) y1).trans c2; have pa3 := (hb91.cell (p := ⟨w.heap.size, 3, none⟩) y1).trans c3; have qa0 := (hb91.cell (p := ⟨w6.heap.size, 0, none⟩) y2).trans e0; have qa1 := (hb91.cell (p := ⟨w6.heap.size, 1, none⟩) y2).trans e1; have qa2 := (hb91.cell (p := ⟨w6.heap.size, 2, none⟩) y2).trans e2; have qa3 := (hb91.cell (p := ⟨w6.heap.size, 3, none⟩) y2).trans e3) | (go_at_call 43; refine (eqBill _ _ x w91 ((unhide U68).kept hb91) u91 (unhide FX)).mono ?_; rintro e w92 ⟨rfl, hb92'⟩; have hb92 : Below w8.heap.size w8 w92 := below_trans hb91 hb92'; clear hb92'; have pb0 := (hb92.cell (p := ⟨w.heap.size, 0, none⟩) y1).trans c0; have pb1 := (hb92.cell (p := ⟨w.heap.size, 1, none⟩) y1).trans c1; have pb2 := (hb92.cell (p := ⟨w.heap.size, 2, none⟩) y1).trans c2; have pb3 := (hb92.cell (p := ⟨w.heap.size, 3, none⟩) y1).trans c3; have qb0 := (hb92.cell (p := ⟨w6.heap.size, 0, none⟩) y2).trans e0; have qb1 := (hb92.cell (p := ⟨w6.heap.size, 1, none⟩) y2).trans e1; have qb2 := (hb92.cell (p := ⟨w6.heap.size, 2, none⟩) y2).trans e2; have qb3 := (hb92.cell (p := ⟨w6.heap.size, 3, none⟩) y2).trans e3))
  have HB9 := hide (below_trans (unhide HB8) hb92)
  have a2 := (unhide A2).below hb92 (by omega)
  have a4 := (unhide A4).below hb92 (by omega)
  have U79 := hide ((unhide U78).kept hb92)
  have hz9 : w8.heap.size ≤ w92.heap.size := hb92.size
  clear pa0 pa1 pa2 pa3 qa0 qa1 qa2 qa3 pb0 pb1 pb2 pb3 qb0 qb1 qb2 qb3 hb91 hb92 u91 y1 y2 c0 c1 c2 c3 e0 e1 e2 e3 A1 A2 A3 A4 U68 U78 HB8
  have c0 := (a2 0 _ rfl).1
  have c1 := (a2 1 _ rfl).1
  have c2 := (a2 2 _ rfl).1
  have c3 := (a2 3 _ rfl).1
  have e0 := (a4 0 _ rfl).1
  have e1 := (a4 1 _ rfl).1
  have e2 := (a4 2 _ rfl).1
  have e3 := (a4 3 _ rfl).1
  clear a2 a4
  have y1 : w.heap.size + 1 < w92.heap.size := by omega
  have y2 : w7.heap.size < w92.heap.size := by omega
  go_wp2_with (fail)
  go_region_held3 (fun ww => ww.cell? ⟨w.heap.size + 1, 0, none⟩ = some (.slice ta' y.tar.length tc') ∧ ww.cell? ⟨w.heap.size + 1, 1, none⟩ = some (.slice ea' y.evs.length ec') ∧ ww.cell? ⟨w.heap.size + 1, 2, none⟩ = some (.slice ia' y.invs.length ic') ∧ ww.cell? ⟨w.heap.size + 1, 3, none⟩ = some (.int .i64 y.paid) ∧ ww.cell? ⟨w7.heap.size, 0, none⟩ = some (.slice ya y.tar.length yc) ∧ ww.cell? ⟨w7.heap.size, 1, none⟩ = some (.slice yea y.evs.length yec) ∧ ww.cell? ⟨w7.heap.size, 2, none⟩ = some (.slice yia y.invs.length yic) ∧ ww.cell? ⟨w7.heap.size, 3, none⟩ = some (.int .i64 y.paid)) (go_keep) (first | (go_at_call 41; refine (toBill (.agg #[.slice ta' y.tar.length tc', .slice ea' y.evs.length ec', .slice ia' y.invs.length ic', .int .i64 y.paid]) y w92.drew ((unhide HY).kept (below_todrew (unhide HB9))) (unhide FY)).mono ?_; rintro e wa1 ⟨va1, rfl, ua1, hba1'⟩; have hba1 : Below w92.heap.size w92 wa1 := below_of_drew hba1'; clear hba1'; have pa0 := (hba1.cell (p := ⟨w.heap.size + 1, 0, none⟩) y1).trans c0; have pa1 := (hba1.cell (p := ⟨w.heap.size + 1, 1, none⟩) y1).trans c1; have pa2 := (hba1.cell (p := ⟨w.heap.size + 1, 2, none⟩) y1).trans c2; have pa3 := (hba1.cell (p := ⟨w.heap.size + 1, 3, none⟩) y1).trans c3; have qa0 := (hba1.cell (p := ⟨w7.heap.size, 0, none⟩) y2).trans e0; have qa1 := (hba1.cell (p := ⟨w7.heap.size, 1, none⟩) y2).trans e1; have qa2 := (hba1.cell (p := ⟨w7.heap.size, 2, none⟩) y2).trans e2; have qa3 := (hba1.cell (p := ⟨w7.heap.size, 3, none⟩) y2).trans e3) | (go_at_call 43; refine (eqBill _ _ y wa1 ((unhide U79).kept hba1) ua1 (unhide FY)).mono ?_; rintro e wa2 ⟨rfl, hba2'⟩; have hba2 : Below w92.heap.size w92 wa2 := below_trans hba1 hba2'; clear hba2'; have pb0 := (hba2.cell (p := ⟨w.heap.size + 1, 0, none⟩) y1).trans c0; have pb1 := (hba2.cell (p := ⟨w.heap.size + 1, 1, none⟩) y1).trans c1; have pb2 := (hba2.cell (p := ⟨w.heap.size + 1, 2, none⟩) y1).trans c2; have pb3 := (hba2.cell (p := ⟨w.heap.size + 1, 3, none⟩) y1).trans c3; have qb0 := (hba2.cell (p := ⟨w7.heap.size, 0, none⟩) y2).trans e0; have qb1 := (hba2.cell (p := ⟨w7.heap.size, 1, none⟩) y2).trans e1; have qb2 := (hba2.cell (p := ⟨w7.heap.size, 2, none⟩) y2).trans e2; have qb3 := (hba2.cell (p := ⟨w7.heap.size, 3, none⟩) y2).trans e3))
  have HBa := hide (below_trans (unhide HB9) hba2)
  clear pa0 pa1 pa2 pa3 qa0 qa1 qa2 qa3 pb0 pb1 pb2 pb3 qb0 qb1 qb2 qb3 hba1 hba2 ua1 y1 y2 c0 c1 c2 c3 e0 e1 e2 e3
  go_wp2_with (fail)
  go_ret
  exact ⟨rfl, unhide HBa⟩
end Go.Proofs.Ytdjjgoeinkbmjaa.Bills
