/-
  Texts of this proof laid together, in build order; each says of itself what it holds.
-/
import Derived.Test.YtkdaljonmkfdaaaGreatDoorZaq
import Derived.Test.YtkdaljonmkfdaaaGreatDoorZar
section
/-
  BillDue: what is still to be paid.
-/
namespace Go.Proofs.YtkdaljonmkfdaaaGreatDoor.Bill
set_option linter.unusedVariables false
open Go.RowKit RegIn
open Evs (hide unhide below_trans below_of_drew below_drewN' ltS E ER)
open BRow (R R0 RR RC)
open Bills (I I0 IW IR IC B BV FineB FewB below_alloc)
open Rule (EnvR)

theorem below_todrew' {B : Nat} {a w : World} (h : Below B a w) : Below B a w.drew := ⟨h.os, h.tape, h.output, h.size, h.block⟩
/-- what is due -/
noncomputable def dueF (x : B) : Int := if billB x then grossS x.invs - x.paid else 0
theorem billB_facts {x : B} (h : billB x = true) : x.invs.length ≤ 8 ∧ (∀ k, k < x.invs.length → invB (x.invs.getD k I0) = true) ∧ (0 ≤ grossS x.invs ∧ grossS x.invs ≤ 1000000000000000) ∧ 0 ≤ x.paid ∧ x.paid ≤ 1000000000000000 := by
  unfold billB at h
  simp only [Bool.and_eq_true, decide_eq_true_eq] at h
  obtain ⟨⟨⟨⟨⟨h1, h2⟩, h3⟩, h4⟩, h5⟩, h6⟩ := h
  have hi := billB_inv ⟨h3, h4⟩
  have hg := gross_bd x.invs h3 hi x.invs.length (Nat.le_refl _)
  rw [List.take_length] at hg
  have h5' := Coin.okB_iff.1 h5
  exact ⟨h3, hi, ⟨hg.1, by omega⟩, unitB_iff.1 h6⟩

set_option maxHeartbeats 1000000 in
/-- spec.l4Sum -/
theorem sumSp (v : Value) (x : B) (w : World) (h : BV w v x) (hl : x.invs.length ≤ 8) (hk : ∀ k, k < x.invs.length → invB (x.invs.getD k I0) = true) :
    Calls Tryz.prog 48 #[v] w fun y w' => y = .returned (.int .i64 (grossS x.invs)) ∧ Below w.heap.size w w' := by
  obtain ⟨tv, ev, iv, rfl, ht, hev, hiv⟩ := h
  obtain ⟨ta, tc, rfl⟩ := ht.slice
  obtain ⟨ea, ec, rfl⟩ := hev.slice
  obtain ⟨ia, ic, rfl⟩ := hiv.slice
  have HI := hide hiv
  have HBD := hide (gross_bd x.invs hl hk)
  have HK := hide hk
  clear ht hev hiv hk
  go_enter Tryz.func48, Tryz.ntmps48
  go_wp2_with (fail)
  go_loopw [3, 4] (fun a i wr => ∃ k : Nat, k ≤ x.invs.length ∧ i = .int .i64 k ∧ a = .int .i64 (grossS (x.invs.take k)) ∧ Hid (Boxes.At wr w.heap.size [.slice ta x.tar.length tc, .slice ea x.evs.length ec, .slice ia x.invs.length ic, .int .i64 x.paid] ∧ Below w.heap.size w wr ∧ w.heap.size + 1 ≤ wr.heap.size)) (fun _ i _ => x.invs.length - (intOf i).toNat)
  case atStart =>
    obtain ⟨q1, hB, hz1⟩ := Boxes.box1 (Below.refl _ (w.alloc (.cells #[.slice ta x.tar.length tc, .slice ea x.evs.length ec, .slice ia x.invs.length ic, .int .i64 x.paid] 42)))
    exact ⟨0, Nat.zero_le _, rfl, rfl, hide ⟨q1, hB, hz1⟩⟩
  case round =>
    obtain ⟨k, hk', rfl, rfl, hb⟩ := hrel
    have q3 := (unhide hb).1
    have hz3 := (unhide hb).2.2
    obtain ⟨e2, _⟩ := q3 2 _ rfl
    clear q3
    by_cases hlt : k < x.invs.length
    · obtain ⟨b, o, cap, hcf, hc⟩ : ∃ b o cap, Value.slice ia x.invs.length ic = .slice (some ⟨b, o, none⟩) x.invs.length cap ∧ IC w b o x.invs := by
        rcases unhide HI with ⟨h, _⟩ | h
        · rw [h] at hlt; simp at hlt
        · exact h
      simp only [Value.slice.injEq, true_and] at hcf
      obtain ⟨rfl, rfl⟩ := hcf
      obtain ⟨rv, ev', ⟨c0, c1, c2, c3, c4, c5⟩, hiw⟩ := (hc.kept (unhide hb).2.1).2 k hlt
      obtain ⟨ra, rc, hrf⟩ := hiw.1.slice
      obtain ⟨ea', ec', hef⟩ := hiw.2.slice
      subst hrf hef
      have HIW := hide hiw
      have HKK := hide (unhide HK k hlt)
      have HST := hide (gross_take x.invs k hlt)
      have hbd := unhide HBD k (by omega)
      have hgx := (invB_bd (unhide HKK)).2.2.2
      have i1 : (0 : Int) ≤ (k : Int) := by omega
      have i2 : (k : Int) < (x.invs.length : Int) := by omega
      have hbd2 : 0 ≤ grossS (x.invs.take k) ∧ grossS (x.invs.take k) ≤ 8000000000000000 := by omega
      clear hiw hc hbd
      generalize x.invs.getD k I0 = y at *
      generalize hgk : grossS (x.invs.take k) = g0 at *
      obtain ⟨d1, d2⟩ := hbd2
      go_wp2_with (fail)
      refine (grossSp y _ _ _ (unhide HIW) (unhide HKK)).mono ?_
      rintro q w4 ⟨rfl, hb4⟩
      have HB4 : Hid (Boxes.At w4 w.heap.size [.slice ta x.tar.length tc, .slice ea x.evs.length ec, .slice (some ⟨b, o, none⟩) x.invs.length ic, .int .i64 x.paid] ∧ Below w.heap.size w w4 ∧ w.heap.size + 1 ≤ w4.heap.size) := hide ⟨(unhide hb).1.below hb4 (by omega), below_trans (unhide hb).2.1 hb4, Nat.le_trans hz3 hb4.size⟩
      clear hb4 hb c0 c1 c2 c3 c4 c5 HIW HKK e2
      obtain ⟨g1, g2⟩ := hgx
      generalize grossX y = gx at *
      go_wp2_with (fail)
      exact ⟨⟨k + 1, by omega, by go_num, by rw [unhide HST], HB4⟩, by simp [intOf]; omega⟩
    · obtain rfl : k = x.invs.length := by omega
      rw [List.take_length]
      go_wp2_with (fail)
      go_ret
      exact ⟨rfl, (unhide hb).2.1⟩

set_option maxRecDepth 20000 in
set_option maxHeartbeats 1600000 in
/-- spec.BillDue -/
theorem dueS (v : Value) (x : B) (w : World) (h : BV w v x) (hf : FineB x) (hw : FewB x) :
    Calls Tryz.prog 16 #[v] w fun y w' => y = .returned (.int .i64 (dueF x)) ∧ Below w.heap.size w w' := by
  have HX := hide h
  have HF := hide hf
  have HW := hide hw
  obtain ⟨tv, ev, iv, rfl, ht, hev, hiv⟩ := h
  obtain ⟨ta, tc, rfl⟩ := ht.slice
  obtain ⟨ea, ec, rfl⟩ := hev.slice
  obtain ⟨ia, ic, rfl⟩ := hiv.slice
  have HD : Hid (dueF x = if billB x then grossS x.invs - x.paid else 0) := hide rfl
  generalize dueF x = z at *
  clear ht hev hiv hf hw
  go_enter Tryz.func16, Tryz.ntmps16
  go_wp2_with (fail)
  refine (billS _ x _ ((unhide HX).kept (below_alloc _ _)) (unhide HF) (unhide HW)).mono ?_
  rintro y w1 ⟨rfl, hb1⟩
  obtain ⟨q1, hB, hz1⟩ := Boxes.box1 hb1
  have Q1 := hide q1
  have B1 := hide hB
  have c0 := (q1 0 _ rfl).1
  have c1 := (q1 1 _ rfl).1
  have c2 := (q1 2 _ rfl).1
  have c3 := (q1 3 _ rfl).1
  clear hb1 hB q1
  cases hk : billB x
  · have hr : z = 0 := by rw [unhide HD, hk]; rfl
    subst hr
    go_wp2_with (fail)
    go_ret
    exact ⟨rfl, unhide B1⟩
  have hr : z = grossS x.invs - x.paid := by rw [unhide HD, hk]; rfl
  subst hr
  have hfa := billB_facts hk
  obtain ⟨h8, hin, ⟨g1, g2⟩, p1, p2⟩ := hfa
  have HIN := hide hin
  clear hin HD
  have y1 : w.heap.size < w1.heap.size := by omega
  go_wp2_with (fail)
  go_region_held3 (fun ww => ww.cell? ⟨w.heap.size, 0, none⟩ = some (.slice ta x.tar.length tc) ∧ ww.cell? ⟨w.heap.size, 1, none⟩ = some (.slice ea x.evs.length ec) ∧ ww.cell? ⟨w.heap.size, 2, none⟩ = some (.slice ia x.invs.length ic) ∧ ww.cell? ⟨w.heap.size, 3, none⟩ = some (.int .i64 x.paid)) (go_keep) (first | (go_at_call 48; refine (sumSp (.agg #[.slice ta x.tar.length tc, .slice ea x.evs.length ec, .slice ia x.invs.length ic, .int .i64 x.paid]) x w1.drew ((unhide HX).kept (below_todrew' (unhide B1))) h8 (unhide HIN)).mono ?_; rintro e w2 ⟨rfl, hb2'⟩; have hb2 : Below w1.heap.size w1 w2 := below_of_drew hb2'; clear hb2'; have pa0 := (hb2.cell (p := ⟨w.heap.size, 0, none⟩) y1).trans c0; have pa1 := (hb2.cell (p := ⟨w.heap.size, 1, none⟩) y1).trans c1; have pa2 := (hb2.cell (p := ⟨w.heap.size, 2, none⟩) y1).trans c2; have pa3 := (hb2.cell (p := ⟨w.heap.size, 3, none⟩) y1).trans c3))
  have B2 := hide (below_trans (unhide B1) hb2)
  clear pa0 pa1 pa2 pa3 hb2 c0 c1 c2 c3
  have hwrap : IntKind.i64.wrap (grossS x.invs - x.paid) = grossS x.invs - x.paid := IntWalk.i64_in _ ⟨by omega, by omega⟩
  go_wp2_with (fail)
  go_ret
  exact ⟨congrArg (fun n => Ending.returned (Value.int .i64 n)) hwrap, unhide B2⟩

set_option maxRecDepth 20000 in
set_option maxHeartbeats 1600000 in
/-- impl.BillDue -/
theorem dueI (v : Value) (x : B) (w : World) (h : BV w v x) (hf : FineB x) (hw : FewB x) (he : EnvR w) :
    Calls Tryz.prog 17 #[v] w fun y w' => y = .returned (.int .i64 (dueF x)) ∧ Below w.heap.size w w' := by
  have HX := hide h
  have HF := hide hf
  have HW := hide hw
  have HE := hide he
  obtain ⟨tv, ev, iv, rfl, ht, hev, hiv⟩ := h
  obtain ⟨ta, tc, rfl⟩ := ht.slice
  obtain ⟨ea, ec, rfl⟩ := hev.slice
  obtain ⟨ia, ic, rfl⟩ := hiv.slice
  have HD : Hid (dueF x = if billB x then grossS x.invs - x.paid else 0) := hide rfl
  generalize dueF x = z at *
  have HI := hide hiv
  clear ht hev hiv hf hw he
  go_enter Tryz.func17, Tryz.ntmps17
  go_wp2_with (fail)
  refine (billI _ x _ ((unhide HX).kept (below_alloc _ _)) (unhide HF) (unhide HW) ((unhide HE).kept (below_alloc _ _))).mono ?_
  rintro y w1 ⟨rfl, hb1⟩
  obtain ⟨q1, hB, hz1⟩ := Boxes.box1 hb1
  have Q1 := hide q1
  have B1 := hide hB
  have c0 := (q1 0 _ rfl).1
  have c1 := (q1 1 _ rfl).1
  have c2 := (q1 2 _ rfl).1
  have c3 := (q1 3 _ rfl).1
  clear hb1 hB q1
  cases hk : billB x
  · have hr : z = 0 := by rw [unhide HD, hk]; rfl
    subst hr
    go_wp2_with (fail)
    go_ret
    exact ⟨rfl, unhide B1⟩
  have hr : z = grossS x.invs - x.paid := by rw [unhide HD, hk]; rfl
  subst hr
  have hfa := billB_facts hk
  obtain ⟨h8, hin, ⟨g1, g2⟩, p1, p2⟩ := hfa
  have HIN := hide hin
  clear hin HD
  have y1 : w.heap.size < w1.heap.size := by omega
  go_wp2_with (fail)
  go_region_held3 (fun ww => ww.cell? ⟨w.heap.size, 0, none⟩ = some (.slice ta x.tar.length tc) ∧ ww.cell? ⟨w.heap.size, 1, none⟩ = some (.slice ea x.evs.length ec) ∧ ww.cell? ⟨w.heap.size, 2, none⟩ = some (.slice ia x.invs.length ic) ∧ ww.cell? ⟨w.heap.size, 3, none⟩ = some (.int .i64 x.paid)) (go_keep) (first | (go_at_call 43; refine (grossAllI (.slice ia x.invs.length ic) x.invs w1.drew ((unhide HI).kept (below_todrew' (unhide B1))) h8 (unhide HIN)).mono ?_; rintro e w2 ⟨rfl, hb2'⟩; have hb2 : Below w1.heap.size w1 w2 := below_of_drew hb2'; clear hb2'; have pa0 := (hb2.cell (p := ⟨w.heap.size, 0, none⟩) y1).trans c0; have pa1 := (hb2.cell (p := ⟨w.heap.size, 1, none⟩) y1).trans c1; have pa2 := (hb2.cell (p := ⟨w.heap.size, 2, none⟩) y1).trans c2; have pa3 := (hb2.cell (p := ⟨w.heap.size, 3, none⟩) y1).trans c3))
  have B2 := hide (below_trans (unhide B1) hb2)
  clear pa0 pa1 pa2 pa3 hb2 c0 c1 c2 c3
  have hwrap : IntKind.i64.wrap (grossS x.invs - x.paid) = grossS x.invs - x.paid := IntWalk.i64_in _ ⟨by omega, by omega⟩
  go_wp2_with (fail)
  go_ret
  exact ⟨congrArg (fun n => Ending.returned (Value.int .i64 n)) hwrap, unhide B2⟩
end Go.Proofs.YtkdaljonmkfdaaaGreatDoor.Bill
end

section
/-
  The law on BillDue.
-/
namespace Go.Proofs.YtkdaljonmkfdaaaGreatDoor.Bill
set_option linter.unusedVariables false
open Go.RowKit
open Bills (hide unhide below_trans below_alloc below_of_drew I B BV FineB FewB szBill toBill eqBill)
open Rule (EnvR)

set_option maxRecDepth 20000 in
set_option maxHeartbeats 3200000 in
theorem lawDue (v : Value) (x : B) (w : World) (h : BV w v x) (hf : FineB x) (he : EnvR w) :
    Calls Tryz.prog 5 #[v] w fun e w' => e = .returned (.bool true) ∧ Below w.heap.size w w' := by
  obtain ⟨ta, tc, ea, ec, ia, ic, rfl⟩ := bv_form h
  have HX := hide h
  have HF := hide hf
  have HE := hide he
  clear h hf he
  go_enter Tryz.func5, Tryz.ntmps5
  go_wp2_with (fail)
  refine (szBill _ x 1048576 _ ((unhide HX).kept (below_alloc _ _)) (unhide HF) (by omega) (by omega)).mono ?_
  rintro e w1 ⟨r, rfl, r1, r2, r3, hb1⟩
  obtain ⟨a1, hB, hz⟩ := Boxes.box1 hb1
  have HB := hide hB
  have A1 := hide a1
  have R3 := hide r3
  have c0 := (a1 0 _ rfl).1
  have c1 := (a1 1 _ rfl).1
  have c2 := (a1 2 _ rfl).1
  have c3 := (a1 3 _ rfl).1
  clear hb1 hB a1 r3
  by_cases hr : r < 0
  · go_wp2_with (fail)
    go_ret
    exact ⟨rfl, unhide HB⟩
  have FX := hide (unhide R3 (by omega))
  clear R3
  go_wp2_with (fail)
  refine (toBill _ x _ ((unhide HX).kept (unhide HB)) (unhide FX)).mono ?_
  rintro e w2 ⟨v2, rfl, u2, hb2⟩
  have HB2 := hide (below_trans (unhide HB) hb2)
  have a1 := (unhide A1).below hb2 (by omega)
  have hz2 : w.heap.size + 1 ≤ w2.heap.size := Nat.le_trans hz hb2.size
  have U2 := hide u2
  obtain ⟨xa, xc, xea, xec, xia, xic, rfl⟩ := bv_form u2
  clear c0 c1 c2 c3 A1 hb2 HB u2 r1 r2
  have A1 := hide a1
  clear a1
  go_wp2_with (fail)
  refine (dueS _ x _ (unhide U2) (unhide HF) (unhide FX)).mono ?_
  rintro e w3 ⟨rfl, hb3⟩
  have HB3 := hide (below_trans (unhide HB2) hb3)
  have a1 := (unhide A1).below hb3 (by omega)
  have hz3 : w.heap.size + 1 ≤ w3.heap.size := Nat.le_trans hz2 hb3.size
  have c0 := (a1 0 _ rfl).1
  have c1 := (a1 1 _ rfl).1
  have c2 := (a1 2 _ rfl).1
  have c3 := (a1 3 _ rfl).1
  clear A1 U2 hb3 HB2
  have A1 := hide a1
  clear a1
  generalize hd : dueF x = d
  have HD := hide hd
  clear hd
  go_wp2_with (fail)
  refine (toBill _ x _ ((unhide HX).kept (unhide HB3)) (unhide FX)).mono ?_
  rintro e w6 ⟨v6, rfl, u6, hb6⟩
  have HB6 := hide (below_trans (unhide HB3) hb6)
  have a1 := (unhide A1).below hb6 (by omega)
  have hz6 : w.heap.size + 1 ≤ w6.heap.size := Nat.le_trans hz3 hb6.size
  have U6 := hide u6
  obtain ⟨xa, xc, xea, xec, xia, xic, rfl⟩ := bv_form u6
  clear c0 c1 c2 c3 A1 hb6 HB3 u6
  have A1 := hide a1
  clear a1
  have bb6 := below_alloc w6 (.cells #[.slice xa x.tar.length xc, .slice xea x.evs.length xec, .slice xia x.invs.length xic, .int .i64 x.paid] 42)
  go_wp2_with (fail)
  refine (dueI _ x _ ((unhide U6).kept bb6) (unhide HF) (unhide FX) ((unhide HE).kept (below_trans (unhide HB6) bb6))).mono ?_
  rintro e w8 ⟨rfl, hb8⟩
  rw [unhide HD]
  obtain ⟨a3, hB8, hz8⟩ := Boxes.box1 hb8
  have HB8 := hide (below_trans (unhide HB6) hB8)
  have a1 := (unhide A1).below hB8 (by omega)
  have U68 := hide ((unhide U6).kept hB8)
  clear A1 hb8 HB6 U6 bb6 hB8 HD
  have dd : (d != d) = false := by simp
  have c0 := (a1 0 _ rfl).1
  have c1 := (a1 1 _ rfl).1
  have c2 := (a1 2 _ rfl).1
  have c3 := (a1 3 _ rfl).1
  have e0 := (a3 0 _ rfl).1
  have e1 := (a3 1 _ rfl).1
  have e2 := (a3 2 _ rfl).1
  have e3 := (a3 3 _ rfl).1
  clear a1 a3
  have y1 : w.heap.size < w8.heap.size := by omega
  have y2 : w6.heap.size < w8.heap.size := by omega
  go_wp2_with (fail)
  go_region_held3 (fun ww => ww.cell? ⟨w.heap.size, 0, none⟩ = some (.slice ta x.tar.length tc) ∧ ww.cell? ⟨w.heap.size, 1, none⟩ = some (.slice ea x.evs.length ec) ∧ ww.cell? ⟨w.heap.size, 2, none⟩ = some (.slice ia x.invs.length ic) ∧ ww.cell? ⟨w.heap.size, 3, none⟩ = some (.int .i64 x.paid) ∧ ww.cell? ⟨w6.heap.size, 0, none⟩ = some (.slice xa x.tar.length xc) ∧ ww.cell? ⟨w6.heap.size, 1, none⟩ = some (.slice xea x.evs.length xec) ∧ ww.cell? ⟨w6.heap.size, 2, none⟩ = some (.slice xia x.invs.length xic) ∧ ww.cell? ⟨w6.heap.size, 3, none⟩ = some (.int .i64 x.paid)) (go_keep) (first | (go_at_call 13; refine (toBill (.agg #[.slice ta x.tar.length tc, .slice ea x.evs.length ec, .slice ia x.invs.length ic, .int .i64 x.paid]) x w8.drew ((unhide HX).kept (below_todrew (unhide HB8))) (unhide FX)).mono ?_; rintro e w91 ⟨v91, rfl, u91, hb91'⟩; have hb91 : Below w8.heap.size w8 w91 := below_of_drew hb91'; clear hb91'; have pa0 := (hb91.cell (p := ⟨w.heap.size, 0, none⟩) y1).trans c0; have pa1 := (hb91.cell (p := ⟨w.heap.size, 1, none⟩) y1).trans c1; have pa2 := (hb91.cell (p := ⟨w.heap.size, 2, none⟩) y1).trans c2; have pa3 := (hb91.cell (p := ⟨w.heap.size, 3, none⟩) y1).trans c3; have qa0 := (hb91.cell (p := ⟨w6.heap.size, 0, none⟩) y2).trans e0; have qa1 := (hb91.cell (p := ⟨w6.heap.size, 1, none⟩) y2).trans e1; have qa2 := (hb91.cell (p := ⟨w6.heap.size, 2, none⟩) y2).trans e2; have qa3 := (hb91.cell (p := ⟨w6.heap.size, 3, none⟩) y2).trans e3) | (go_at_call 15; refine (eqBill _ _ x w91 ((unhide U68).kept hb91) u91 (unhide FX)).mono ?_; rintro e w92 ⟨rfl, hb92'⟩; have hb92 : Below w8.heap.size w8 w92 := below_trans hb91 hb92'; clear hb92'; have pb0 := (hb92.cell (p := ⟨w.heap.size, 0, none⟩) y1).trans c0; have pb1 := (hb92.cell (p := ⟨w.heap.size, 1, none⟩) y1).trans c1; have pb2 := (hb92.cell (p := ⟨w.heap.size, 2, none⟩) y1).trans c2; have pb3 := (hb92.cell (p := ⟨w.heap.size, 3, none⟩) y1).trans c3; have qb0 := (hb92.cell (p := ⟨w6.heap.size, 0, none⟩) y2).trans e0; have qb1 := (hb92.cell (p := ⟨w6.heap.size, 1, none⟩) y2).trans e1; have qb2 := (hb92.cell (p := ⟨w6.heap.size, 2, none⟩) y2).trans e2; have qb3 := (hb92.cell (p := ⟨w6.heap.size, 3, none⟩) y2).trans e3))
  have HB9 := hide (below_trans (unhide HB8) hb92)
  clear pa0 pa1 pa2 pa3 qa0 qa1 qa2 qa3 pb0 pb1 pb2 pb3 qb0 qb1 qb2 qb3 hb91 hb92 u91 y1 y2 c0 c1 c2 c3 e0 e1 e2 e3
  go_wp2_with (fail)
  go_ret
  exact ⟨rfl, unhide HB9⟩
end Go.Proofs.YtkdaljonmkfdaaaGreatDoor.Bill
end
