/-
  Texts of this proof laid together, in build order; each says of itself what it holds.
-/
import Derived.Test.YtkdaljonmkfdaaaGreatDoorZaq
import Derived.Test.YtkdaljonmkfdaaaGreatDoorZaf
import Derived.Deep.SlicePairs
import Derived.Lib.SmallJoins
import Derived.Test.YtkdaljonmkfdaaaGreatDoorZaj
section
/-
  The law on BillOk.
-/
namespace Go.Proofs.YtkdaljonmkfdaaaGreatDoor.Bill
set_option linter.unusedVariables false
open Go.RowKit
open Bills (hide unhide below_trans below_alloc below_of_drew I B BV FineB FewB szBill toBill eqBill)
open Rule (EnvR)

theorem bv_form {W : World} {v : Value} {x : B} (h : BV W v x) : ∃ ta tc ea ec ia ic, v = .agg #[.slice ta x.tar.length tc, .slice ea x.evs.length ec, .slice ia x.invs.length ic, .int .i64 x.paid] := by
  obtain ⟨tv, ev, iv, rfl, h1, h2, h3⟩ := h
  obtain ⟨ta, tc, rfl⟩ := h1.slice
  obtain ⟨ea, ec, rfl⟩ := h2.slice
  obtain ⟨ia, ic, rfl⟩ := h3.slice
  exact ⟨_, _, _, _, _, _, rfl⟩

theorem below_todrew {B : Nat} {a w : World} (h : Below B a w) : Below B a w.drew := ⟨h.os, h.tape, h.output, h.size, h.block⟩

set_option maxRecDepth 20000 in
set_option maxHeartbeats 3200000 in
theorem lawOkB (v : Value) (x : B) (w : World) (h : BV w v x) (hf : FineB x) (he : EnvR w) :
    Calls Tryz.prog 4 #[v] w fun e w' => e = .returned (.bool true) ∧ Below w.heap.size w w' := by
  obtain ⟨ta, tc, ea, ec, ia, ic, rfl⟩ := bv_form h
  have HX := hide h
  have HF := hide hf
  have HE := hide he
  clear h hf he
  go_enter Tryz.func4, Tryz.ntmps4
  go_wp2_with (fail)
  refine (szBill _ x 1048576 _ ((unhide HX).kept (below_alloc _ _)) (unhide HF) (by omega) (by omega)).mono ?_
  rintro e w1 ⟨r, rfl, r1, r2, r3, hb1⟩
  obtain ⟨a1, hB, hz⟩ := Boxes.box1 hb1
  have HB := hide hB
  have A1 := hide a1
  have R3 := hide r3
  have c0 := (a1 0 _ rfl).1
  have c1 := (a1 1 _ rfl).1
  have c2 := (a1 2 _ rfl).1
  have c3 := (a1 3 _ rfl).1
  clear hb1 hB a1 r3
  by_cases hr : r < 0
  · go_wp2_with (fail)
    go_ret
    exact ⟨rfl, unhide HB⟩
  have FX := hide (unhide R3 (by omega))
  clear R3
  go_wp2_with (fail)
  refine (toBill _ x _ ((unhide HX).kept (unhide HB)) (unhide FX)).mono ?_
  rintro e w2 ⟨v2, rfl, u2, hb2⟩
  have HB2 := hide (below_trans (unhide HB) hb2)
  have a1 := (unhide A1).below hb2 (by omega)
  have hz2 : w.heap.size + 1 ≤ w2.heap.size := Nat.le_trans hz hb2.size
  have U2 := hide u2
  obtain ⟨xa, xc, xea, xec, xia, xic, rfl⟩ := bv_form u2
  clear c0 c1 c2 c3 A1 hb2 HB u2 r1 r2
  have A1 := hide a1
  clear a1
  go_wp2_with (fail)
  refine (billS _ x _ (unhide U2) (unhide HF) (unhide FX)).mono ?_
  rintro e w3 ⟨rfl, hb3⟩
  have HB3 := hide (below_trans (unhide HB2) hb3)
  have a1 := (unhide A1).below hb3 (by omega)
  have hz3 : w.heap.size + 1 ≤ w3.heap.size := Nat.le_trans hz2 hb3.size
  have c0 := (a1 0 _ rfl).1
  have c1 := (a1 1 _ rfl).1
  have c2 := (a1 2 _ rfl).1
  have c3 := (a1 3 _ rfl).1
  clear A1 U2 hb3 HB2
  have A1 := hide a1
  clear a1
  generalize hd : billB x = d
  have HD := hide hd
  clear hd
  go_wp2_with (fail)
  refine (toBill _ x _ ((unhide HX).kept (unhide HB3)) (unhide FX)).mono ?_
  rintro e w6 ⟨v6, rfl, u6, hb6⟩
  have HB6 := hide (below_trans (unhide HB3) hb6)
  have a1 := (unhide A1).below hb6 (by omega)
  have hz6 : w.heap.size + 1 ≤ w6.heap.size := Nat.le_trans hz3 hb6.size
  have U6 := hide u6
  obtain ⟨xa, xc, xea, xec, xia, xic, rfl⟩ := bv_form u6
  clear c0 c1 c2 c3 A1 hb6 HB3 u6
  have A1 := hide a1
  clear a1
  have bb6 := below_alloc w6 (.cells #[.slice xa x.tar.length xc, .slice xea x.evs.length xec, .slice xia x.invs.length xic, .int .i64 x.paid] 42)
  go_wp2_with (fail)
  refine (billI _ x _ ((unhide U6).kept bb6) (unhide HF) (unhide FX) ((unhide HE).kept (below_trans (unhide HB6) bb6))).mono ?_
  rintro e w8 ⟨rfl, hb8⟩
  rw [unhide HD]
  obtain ⟨a3, hB8, hz8⟩ := Boxes.box1 hb8
  have HB8 := hide (below_trans (unhide HB6) hB8)
  have a1 := (unhide A1).below hB8 (by omega)
  have U68 := hide ((unhide U6).kept hB8)
  clear A1 hb8 HB6 U6 bb6 hB8 HD
  have dd : (d != d) = false := by simp
  have c0 := (a1 0 _ rfl).1
  have c1 := (a1 1 _ rfl).1
  have c2 := (a1 2 _ rfl).1
  have c3 := (a1 3 _ rfl).1
  have e0 := (a3 0 _ rfl).1
  have e1 := (a3 1 _ rfl).1
  have e2 := (a3 2 _ rfl).1
  have e3 := (a3 3 _ rfl).1
  clear a1 a3
  have y1 : w.heap.size < w8.heap.size := by omega
  have y2 : w6.heap.size < w8.heap.size := by omega
  go_wp2_with (fail)
  go_region_held3 (fun ww => ww.cell? ⟨w.heap.size, 0, none⟩ = some (.slice ta x.tar.length tc) ∧ ww.cell? ⟨w.heap.size, 1, none⟩ = some (.slice ea x.evs.length ec) ∧ ww.cell? ⟨w.heap.size, 2, none⟩ = some (.slice ia x.invs.length ic) ∧ ww.cell? ⟨w.heap.size, 3, none⟩ = some (.int .i64 x.paid) ∧ ww.cell? ⟨w6.heap.size, 0, none⟩ = some (.slice xa x.tar.length xc) ∧ ww.cell? ⟨w6.heap.size, 1, none⟩ = some (.slice xea x.evs.length xec) ∧ ww.cell? ⟨w6.heap.size, 2, none⟩ = some (.slice xia x.invs.length xic) ∧ ww.cell? ⟨w6.heap.size, 3, none⟩ = some (.int .i64 x.paid)) (go_keep) (first | (go_at_call 13; refine (toBill (.agg #[.slice ta x.tar.length tc, .slice ea x.evs.length ec, .slice ia x.invs.length ic, .int .i64 x.paid]) x w8.drew ((unhide HX).kept (below_todrew (unhide HB8))) (unhide FX)).mono ?_; rintro e w91 ⟨v91, rfl, u91, hb91'⟩; have hb91 : Below w8.heap.size w8 w91 := below_of_drew hb91'; clear hb91'; have pa0 := (hb91.cell (p := ⟨w.heap.size, 0, none⟩) y1).trans c0; have pa1 := (hb91.cell (p := ⟨w.heap.size, 1, none⟩) y1).trans c1; have pa2 := (hb91.cell (p := ⟨w.heap.size, 2, none⟩) y1).trans c2; have pa3 := (hb91.cell (p := ⟨w.heap.size, 3, none⟩) y1).trans c3; have qa0 := (hb91.cell (p := ⟨w6.heap.size, 0, none⟩) y2).trans e0; have qa1 := (hb91.cell (p := ⟨w6.heap.size, 1, none⟩) y2).trans e1; have qa2 := (hb91.cell (p := ⟨w6.heap.size, 2, none⟩) y2).trans e2; have qa3 := (hb91.cell (p := ⟨w6.heap.size, 3, none⟩) y2).trans e3) | (go_at_call 15; refine (eqBill _ _ x w91 ((unhide U68).kept hb91) u91 (unhide FX)).mono ?_; rintro e w92 ⟨rfl, hb92'⟩; have hb92 : Below w8.heap.size w8 w92 := below_trans hb91 hb92'; clear hb92'; have pb0 := (hb92.cell (p := ⟨w.heap.size, 0, none⟩) y1).trans c0; have pb1 := (hb92.cell (p := ⟨w.heap.size, 1, none⟩) y1).trans c1; have pb2 := (hb92.cell (p := ⟨w.heap.size, 2, none⟩) y1).trans c2; have pb3 := (hb92.cell (p := ⟨w.heap.size, 3, none⟩) y1).trans c3; have qb0 := (hb92.cell (p := ⟨w6.heap.size, 0, none⟩) y2).trans e0; have qb1 := (hb92.cell (p := ⟨w6.heap.size, 1, none⟩) y2).trans e1; have qb2 := (hb92.cell (p := ⟨w6.heap.size, 2, none⟩) y2).trans e2; have qb3 := (hb92.cell (p := ⟨w6.heap.size, 3, none⟩) y2).trans e3))
  have HB9 := hide (below_trans (unhide HB8) hb92)
  clear pa0 pa1 pa2 pa3 qa0 qa1 qa2 qa3 pb0 pb1 pb2 pb3 qb0 qb1 qb2 qb3 hb91 hb92 u91 y1 y2 c0 c1 c2 c3 e0 e1 e2 e3
  go_wp2_with (fail)
  go_ret
  exact ⟨rfl, unhide HB9⟩
end Go.Proofs.YtkdaljonmkfdaaaGreatDoor.Bill
end

section
/-
  Arguments that came in, opened: slices of events, and an event by value.
-/
namespace Go.Proofs.YtkdaljonmkfdaaaGreatDoor.Evs
set_option linter.unusedVariables false
open Go.RowKit Go.Deep Go.ChangeShapes Go.WideShapes

section
variable {H : Type} {enc : TypeId × Value → H} {w : World} {base : Nat} {held : Bool}

theorem lt_of_cell {W : World} {b o : Nat} {v : Value} (h : W.cell? ⟨b, o, none⟩ = some v) : b < W.heap.size := by
  refine Nat.lt_of_not_le fun hn => ?_
  have h2 : W.heap[b]? = none := by simp; omega
  simp [World.cell?, h2] at h

theorem list3 {α : Type} {cs : List α} (h : cs.length = 3) : ∃ a b c, cs = [a, b, c] := by
  match cs, h with
  | [a, b, c], _ => exact ⟨a, b, c, rfl⟩

theorem openFieldsV {fuel : Nat} {cs : List Value} {x : DataW H × List MemPlace} (h : DataW.trod enc Tryz.prog w base (fun _ => true) held fuel 114 cs = some x) :
    ∃ (s m : ByteArray) (q : Int), cs = [.string s, .string m, .int .i64 q] ∧ s.size ≤ maxLen ∧ m.size ≤ maxLen := by
  obtain ⟨xs, n, hn, _, hl, hxl, hf⟩ := DataW.trod_struct Tryz.underlying114 h
  have hl3 : cs.length = 3 := hl.trans (by kernel_rfl)
  obtain ⟨c0, c1, c2, rfl⟩ := list3 hl3
  obtain ⟨x0, x1, x2, rfl⟩ := list3 (by simpa using hxl)
  have k1 : Tryz.prog.cellsOf 3 = 1 := by kernel_rfl
  have k2 : Tryz.prog.cellsOf 9 = 1 := by kernel_rfl
  have h0 := hf 0 _ rfl
  have h1 := hf 1 _ rfl
  have h2 := hf 2 _ rfl
  simp [k1, k2] at h0 h1 h2
  obtain ⟨s, e0, _, hs⟩ := DataW.trod_string Tryz.underlying9 h0
  obtain ⟨m, e1, _, hm⟩ := DataW.trod_string Tryz.underlying9 h1
  obtain ⟨q, e2, _, _⟩ := DataW.trod_int Tryz.underlying3 h2
  simp only [List.cons.injEq, and_true] at e0 e1 e2
  subst e0 e1 e2
  exact ⟨s, m, q, rfl, hs, hm⟩

theorem openEvs {fuel : Nat} {cs : List Value} {x : DataW H × List MemPlace} (h : DataW.trod enc Tryz.prog w base (fun _ => true) held fuel 32 cs = some x) :
    ∃ v l, cs = [v] ∧ ER w v l ∧ l.length ≤ maxLen ∧ ∀ u ∈ l, u.1.size ≤ maxLen ∧ u.2.1.size ≤ maxLen := by
  rcases DataW.trod_slice Tryz.underlying32 h with ⟨rfl, _⟩ | ⟨a, len, cap, elems, rest, n, hfu, rfl, _, hb, hl, hm, hlen, hel, _, _⟩
  · exact ⟨_, [], rfl, .inl ⟨rfl, _, _, rfl⟩, by simp, by simp⟩
  have ce : Tryz.prog.cellsOf 114 = 3 := by kernel_rfl
  by_cases h0 : len = 0
  · subst h0
    exact ⟨_, [], rfl, .inl ⟨rfl, _, _, rfl⟩, by simp, by simp⟩
  have each : ∀ i, i < len → ∃ q : E, (w.cell? (a.add (i * 3)) = some (.string q.1) ∧ w.cell? (a.add (i * 3 + 1)) = some (.string q.2.1) ∧ w.cell? (a.add (i * 3 + 2)) = some (.int .i64 q.2.2)) ∧ (q.1.size ≤ maxLen ∧ q.2.1.size ≤ maxLen) := by
    intro i hi
    have h1 := hel i hi
    rw [List.getElem?_eq_getElem (by omega), ce] at h1
    obtain ⟨cs', h2, h3⟩ := Option.bind_eq_some_iff.1 h1
    obtain ⟨s, m, q, rfl, hs, hm'⟩ := openFieldsV h3
    obtain ⟨_, _, hcell⟩ := World.cells?_some h2
    have g0 := hcell 0 (by omega)
    have g1 := hcell 1 (by omega)
    have g2 := hcell 2 (by omega)
    rw [add_add] at g0 g1 g2
    exact ⟨(s, m, q), ⟨by simpa using g0, by simpa using g1, by simpa using g2⟩, hs, hm'⟩
  obtain ⟨q, hq⟩ := choose_lt each
  obtain ⟨b, off, spot⟩ := a
  have hspot : spot = none := by simpa [Addr.add] using World.cell?_spot (hq 0 (by omega)).1.1
  subst hspot
  have hlt : b < w.heap.size := lt_of_cell (v := .string (q 0).1) (by simpa [Addr.add] using (hq 0 (by omega)).1.1)
  refine ⟨_, (List.range len).map q, rfl, .inr ⟨b, off, cap, by simp, hlt, fun i hi => ?_⟩, by simp; omega, ?_⟩
  · have hi' : i < len := by simpa using hi
    have e : ((List.range len).map q).getD i E0 = q i := by simp [List.getD, hi']
    rw [e]
    obtain ⟨⟨c0, c1, c2⟩, _⟩ := hq i hi'
    rw [Addr.add_lit] at c0 c1 c2
    rw [← Nat.add_assoc] at c1 c2
    exact ⟨c0, c1, c2⟩
  · intro u hu
    obtain ⟨i, hi, rfl⟩ := List.mem_map.1 hu
    exact (hq i (by have := List.mem_range.1 hi; omega)).2

set_option maxRecDepth 100000 in
/-- an event that came in by value -/
theorem openEv {r : Reach} {b0 : Nat} {v : Value} {dd : DataW H} {p : List MemPlace} (hv : Value.okWide Tryz.prog w r b0 114 v) (h : DataW.Trod enc Tryz.prog w base (fun _ => true) held 114 v dd p) :
    ∃ v' e, v = v' ∧ v' = eV e ∧ e.1.size ≤ maxLen ∧ e.2.1.size ≤ maxLen := by
  obtain ⟨cs, rfl, hsz⟩ := okWide_struct Tryz.underlying114 hv
  obtain ⟨fuel, hf⟩ := h
  obtain ⟨s, m, q, hcs, hs, hm⟩ := openFieldsV hf
  refine ⟨_, (s, m, q), rfl, ?_, hs, hm⟩
  have : cs = #[.string s, .string m, .int .i64 q] := by
    apply Array.toList_inj.1
    simpa [Value.cells] using hcs
  rw [this]
set_option maxRecDepth 100000 in
theorem openEv2 {r : Reach} {b0 : Nat} {v : Value} {dd : DataW H} {p : List MemPlace} (hv : Value.okWide Tryz.prog w r b0 114 v) (h : DataW.Trod enc Tryz.prog w base (fun _ => true) held 114 v dd p) :
    ∃ e : E, v = eV e ∧ e.1.size ≤ maxLen ∧ e.2.1.size ≤ maxLen := by
  obtain ⟨v', e, rfl, h1, h2, h3⟩ := openEv hv h
  exact ⟨e, h1, h2, h3⟩
end
end Go.Proofs.YtkdaljonmkfdaaaGreatDoor.Evs
end

section
/-
  Arguments that came in, opened: bills.
-/
namespace Go.Proofs.YtkdaljonmkfdaaaGreatDoor.Bills
set_option linter.unusedVariables false
open Go.RowKit Go.Deep Go.ChangeShapes Go.WideShapes
open Evs (E E0 ER EN EC EOwn lt_of_cell list3)
open BRow (R R0 RR RN RC ROwn)

section
variable {H : Type} {enc : TypeId × Value → H} {w : World} {base : Nat} {held : Bool}

theorem openFieldsL {fuel : Nat} {cs : List Value} {x : DataW H × List MemPlace} (h : DataW.trod enc Tryz.prog w base (fun _ => true) held fuel 111 cs = some x) :
    ∃ (s m : ByteArray) (q : Int), cs = [.string s, .string m, .int .i64 q] ∧ s.size ≤ maxLen ∧ m.size ≤ maxLen := by
  obtain ⟨xs, n, hn, _, hl, hxl, hf⟩ := DataW.trod_struct Tryz.underlying111 h
  have hl3 : cs.length = 3 := hl.trans (by kernel_rfl)
  obtain ⟨c0, c1, c2, rfl⟩ := list3 hl3
  obtain ⟨x0, x1, x2, rfl⟩ := list3 (by simpa using hxl)
  have k1 : Tryz.prog.cellsOf 3 = 1 := by kernel_rfl
  have k2 : Tryz.prog.cellsOf 9 = 1 := by kernel_rfl
  have h0 := hf 0 _ rfl
  have h1 := hf 1 _ rfl
  have h2 := hf 2 _ rfl
  simp [k1, k2] at h0 h1 h2
  obtain ⟨s, e0, _, hs⟩ := DataW.trod_string Tryz.underlying9 h0
  obtain ⟨m, e1, _, hm⟩ := DataW.trod_string Tryz.underlying9 h1
  obtain ⟨q, e2, _, _⟩ := DataW.trod_int Tryz.underlying3 h2
  simp only [List.cons.injEq, and_true] at e0 e1 e2
  subst e0 e1 e2
  exact ⟨s, m, q, rfl, hs, hm⟩

theorem openLins {fuel : Nat} {cs : List Value} {x : DataW H × List MemPlace} (h : DataW.trod enc Tryz.prog w base (fun _ => true) held fuel 31 cs = some x) :
    ∃ v l, cs = [v] ∧ ER w v l ∧ l.length ≤ maxLen ∧ ∀ u ∈ l, u.1.size ≤ maxLen ∧ u.2.1.size ≤ maxLen := by
  rcases DataW.trod_slice Tryz.underlying31 h with ⟨rfl, _⟩ | ⟨a, len, cap, elems, rest, n, hfu, rfl, _, hb, hl, hm, hlen, hel, _, _⟩
  · exact ⟨_, [], rfl, .inl ⟨rfl, _, _, rfl⟩, by simp, by simp⟩
  have ce : Tryz.prog.cellsOf 111 = 3 := by kernel_rfl
  by_cases h0 : len = 0
  · subst h0
    exact ⟨_, [], rfl, .inl ⟨rfl, _, _, rfl⟩, by simp, by simp⟩
  have each : ∀ i, i < len → ∃ q : E, (w.cell? (a.add (i * 3)) = some (.string q.1) ∧ w.cell? (a.add (i * 3 + 1)) = some (.string q.2.1) ∧ w.cell? (a.add (i * 3 + 2)) = some (.int .i64 q.2.2)) ∧ (q.1.size ≤ maxLen ∧ q.2.1.size ≤ maxLen) := by
    intro i hi
    have h1 := hel i hi
    rw [List.getElem?_eq_getElem (by omega), ce] at h1
    obtain ⟨cs', h2, h3⟩ := Option.bind_eq_some_iff.1 h1
    obtain ⟨s, m, q, rfl, hs, hm'⟩ := openFieldsL h3
    obtain ⟨_, _, hcell⟩ := World.cells?_some h2
    have g0 := hcell 0 (by omega)
    have g1 := hcell 1 (by omega)
    have g2 := hcell 2 (by omega)
    rw [add_add] at g0 g1 g2
    exact ⟨(s, m, q), ⟨by simpa using g0, by simpa using g1, by simpa using g2⟩, hs, hm'⟩
  obtain ⟨q, hq⟩ := choose_lt each
  obtain ⟨b, off, spot⟩ := a
  have hspot : spot = none := by simpa [Addr.add] using World.cell?_spot (hq 0 (by omega)).1.1
  subst hspot
  have hlt : b < w.heap.size := lt_of_cell (v := .string (q 0).1) (by simpa [Addr.add] using (hq 0 (by omega)).1.1)
  refine ⟨_, (List.range len).map q, rfl, .inr ⟨b, off, cap, by simp, hlt, fun i hi => ?_⟩, by simp; omega, ?_⟩
  · have hi' : i < len := by simpa using hi
    have e : ((List.range len).map q).getD i E0 = q i := by simp [List.getD, hi']
    rw [e]
    obtain ⟨⟨c0, c1, c2⟩, _⟩ := hq i hi'
    rw [Addr.add_lit] at c0 c1 c2
    rw [← Nat.add_assoc] at c1 c2
    exact ⟨c0, c1, c2⟩
  · intro u hu
    obtain ⟨i, hi, rfl⟩ := List.mem_map.1 hu
    exact (hq i (by have := List.mem_range.1 hi; omega)).2

theorem openFieldsR {fuel : Nat} {cs : List Value} {x : DataW H × List MemPlace} (h : DataW.trod enc Tryz.prog w base (fun _ => true) held fuel 191 cs = some x) :
    ∃ (s : ByteArray) (m q : Int), cs = [.string s, .int .i64 m, .int .i64 q] ∧ s.size ≤ maxLen := by
  obtain ⟨xs, n, hn, _, hl, hxl, hf⟩ := DataW.trod_struct Tryz.underlying191 h
  have hl3 : cs.length = 3 := hl.trans (by kernel_rfl)
  obtain ⟨c0, c1, c2, rfl⟩ := list3 hl3
  obtain ⟨x0, x1, x2, rfl⟩ := list3 (by simpa using hxl)
  have k1 : Tryz.prog.cellsOf 3 = 1 := by kernel_rfl
  have k2 : Tryz.prog.cellsOf 9 = 1 := by kernel_rfl
  have h0 := hf 0 _ rfl
  have h1 := hf 1 _ rfl
  have h2 := hf 2 _ rfl
  simp [k1, k2] at h0 h1 h2
  obtain ⟨s, e0, _, hs⟩ := DataW.trod_string Tryz.underlying9 h0
  obtain ⟨m, e1, _, _⟩ := DataW.trod_int Tryz.underlying3 h1
  obtain ⟨q, e2, _, _⟩ := DataW.trod_int Tryz.underlying3 h2
  simp only [List.cons.injEq, and_true] at e0 e1 e2
  subst e0 e1 e2
  exact ⟨s, m, q, rfl, hs⟩

theorem openRows {fuel : Nat} {cs : List Value} {x : DataW H × List MemPlace} (h : DataW.trod enc Tryz.prog w base (fun _ => true) held fuel 116 cs = some x) :
    ∃ v l, cs = [v] ∧ RR w v l ∧ l.length ≤ maxLen ∧ ∀ u ∈ l, u.1.size ≤ maxLen := by
  rcases DataW.trod_slice Tryz.underlying116 h with ⟨rfl, _⟩ | ⟨a, len, cap, elems, rest, n, hfu, rfl, _, hb, hl, hm, hlen, hel, _, _⟩
  · exact ⟨_, [], rfl, .inl ⟨rfl, _, _, rfl⟩, by simp, by simp⟩
  have ce : Tryz.prog.cellsOf 191 = 3 := by kernel_rfl
  by_cases h0 : len = 0
  · subst h0
    exact ⟨_, [], rfl, .inl ⟨rfl, _, _, rfl⟩, by simp, by simp⟩
  have each : ∀ i, i < len → ∃ q : R, (w.cell? (a.add (i * 3)) = some (.string q.1) ∧ w.cell? (a.add (i * 3 + 1)) = some (.int .i64 q.2.1) ∧ w.cell? (a.add (i * 3 + 2)) = some (.int .i64 q.2.2)) ∧ q.1.size ≤ maxLen := by
    intro i hi
    have h1 := hel i hi
    rw [List.getElem?_eq_getElem (by omega), ce] at h1
    obtain ⟨cs', h2, h3⟩ := Option.bind_eq_some_iff.1 h1
    obtain ⟨s, m, q, rfl, hs⟩ := openFieldsR h3
    obtain ⟨_, _, hcell⟩ := World.cells?_some h2
    have g0 := hcell 0 (by omega)
    have g1 := hcell 1 (by omega)
    have g2 := hcell 2 (by omega)
    rw [add_add] at g0 g1 g2
    exact ⟨(s, m, q), ⟨by simpa using g0, by simpa using g1, by simpa using g2⟩, hs⟩
  obtain ⟨q, hq⟩ := choose_lt each
  obtain ⟨b, off, spot⟩ := a
  have hspot : spot = none := by simpa [Addr.add] using World.cell?_spot (hq 0 (by omega)).1.1
  subst hspot
  have hlt : b < w.heap.size := lt_of_cell (v := .string (q 0).1) (by simpa [Addr.add] using (hq 0 (by omega)).1.1)
  refine ⟨_, (List.range len).map q, rfl, .inr ⟨b, off, cap, by simp, hlt, fun i hi => ?_⟩, by simp; omega, ?_⟩
  · have hi' : i < len := by simpa using hi
    have e : ((List.range len).map q).getD i R0 = q i := by simp [List.getD, hi']
    rw [e]
    obtain ⟨⟨c0, c1, c2⟩, _⟩ := hq i hi'
    rw [Addr.add_lit] at c0 c1 c2
    rw [← Nat.add_assoc] at c1 c2
    exact ⟨c0, c1, c2⟩
  · intro u hu
    obtain ⟨i, hi, rfl⟩ := List.mem_map.1 hu
    exact (hq i (by have := List.mem_range.1 hi; omega)).2

theorem list6 {α : Type} {cs : List α} (h : cs.length = 6) : ∃ a b c d e f, cs = [a, b, c, d, e, f] := by
  match cs, h with
  | [a, b, c, d, e, f], _ => exact ⟨a, b, c, d, e, f, rfl⟩
theorem list4 {α : Type} {cs : List α} (h : cs.length = 4) : ∃ a b c d, cs = [a, b, c, d] := by
  match cs, h with
  | [a, b, c, d], _ => exact ⟨a, b, c, d, rfl⟩

theorem openFieldsI {fuel : Nat} {cs : List Value} {x : DataW H × List MemPlace} (h : DataW.trod enc Tryz.prog w base (fun _ => true) held fuel 118 cs = some x) :
    ∃ (i : I) (rv ev : Value), cs = [.int .i64 i.no, rv, ev, .int .i64 i.net, .int .i64 i.tax, .int .i64 i.credit] ∧ IW w rv ev i ∧ FineI i := by
  obtain ⟨xs, n, hn, _, hl, hxl, hf⟩ := DataW.trod_struct Tryz.underlying118 h
  have hl6 : cs.length = 6 := hl.trans (by kernel_rfl)
  obtain ⟨c0, c1, c2, c3, c4, c5, rfl⟩ := list6 hl6
  obtain ⟨x0, x1, x2, x3, x4, x5, rfl⟩ := list6 (by simpa using hxl)
  have k1 : Tryz.prog.cellsOf 3 = 1 := by kernel_rfl
  have k2 : Tryz.prog.cellsOf 116 = 1 := by kernel_rfl
  have k3 : Tryz.prog.cellsOf 32 = 1 := by kernel_rfl
  have h0 := hf 0 _ rfl
  have h1 := hf 1 _ rfl
  have h2 := hf 2 _ rfl
  have h3 := hf 3 _ rfl
  have h4 := hf 4 _ rfl
  have h5 := hf 5 _ rfl
  simp [k1, k2, k3] at h0 h1 h2 h3 h4 h5
  obtain ⟨no, e0, _, _⟩ := DataW.trod_int Tryz.underlying3 h0
  obtain ⟨rv, rl, e1, hr, r1, r2⟩ := openRows h1
  obtain ⟨ev, el, e2, he, v1, v2⟩ := Evs.openEvs h2
  obtain ⟨net, e3, _, _⟩ := DataW.trod_int Tryz.underlying3 h3
  obtain ⟨tax, e4, _, _⟩ := DataW.trod_int Tryz.underlying3 h4
  obtain ⟨credit, e5, _, _⟩ := DataW.trod_int Tryz.underlying3 h5
  simp only [List.cons.injEq, and_true] at e0 e1 e2 e3 e4 e5
  subst e0 e1 e2 e3 e4 e5
  exact ⟨⟨no, rl, el, net, tax, credit⟩, _, _, rfl, ⟨hr, he⟩, ⟨r1, r2⟩, ⟨v1, v2⟩⟩

theorem openInvs {fuel : Nat} {cs : List Value} {x : DataW H × List MemPlace} (h : DataW.trod enc Tryz.prog w base (fun _ => true) held fuel 33 cs = some x) :
    ∃ v l, cs = [v] ∧ IR w v l ∧ FineIs l := by
  rcases DataW.trod_slice Tryz.underlying33 h with ⟨rfl, _⟩ | ⟨a, len, cap, elems, rest, n, hfu, rfl, _, hb, hl, hm, hlen, hel, _, _⟩
  · exact ⟨_, [], rfl, .inl ⟨rfl, _, _, rfl⟩, by simp, by simp⟩
  have ce : Tryz.prog.cellsOf 118 = 6 := by kernel_rfl
  by_cases h0 : len = 0
  · subst h0
    exact ⟨_, [], rfl, .inl ⟨rfl, _, _, rfl⟩, by simp, by simp⟩
  have each : ∀ i, i < len → ∃ q : I × Value × Value, (w.cell? (a.add (i * 6)) = some (.int .i64 q.1.no) ∧ w.cell? (a.add (i * 6 + 1)) = some q.2.1 ∧ w.cell? (a.add (i * 6 + 2)) = some q.2.2 ∧ w.cell? (a.add (i * 6 + 3)) = some (.int .i64 q.1.net) ∧ w.cell? (a.add (i * 6 + 4)) = some (.int .i64 q.1.tax) ∧ w.cell? (a.add (i * 6 + 5)) = some (.int .i64 q.1.credit)) ∧ IW w q.2.1 q.2.2 q.1 ∧ FineI q.1 := by
    intro i hi
    have h1 := hel i hi
    rw [List.getElem?_eq_getElem (by omega), ce] at h1
    obtain ⟨cs', h2, h3⟩ := Option.bind_eq_some_iff.1 h1
    obtain ⟨q, rv, ev, rfl, hw, hf⟩ := openFieldsI h3
    obtain ⟨_, _, hcell⟩ := World.cells?_some h2
    have g0 := hcell 0 (by omega)
    have g1 := hcell 1 (by omega)
    have g2 := hcell 2 (by omega)
    have g3 := hcell 3 (by omega)
    have g4 := hcell 4 (by omega)
    have g5 := hcell 5 (by omega)
    rw [add_add] at g0 g1 g2 g3 g4 g5
    exact ⟨(q, rv, ev), ⟨by simpa using g0, by simpa using g1, by simpa using g2, by simpa using g3, by simpa using g4, by simpa using g5⟩, hw, hf⟩
  obtain ⟨q, hq⟩ := choose_lt each
  obtain ⟨b, off, spot⟩ := a
  have hspot : spot = none := by simpa [Addr.add] using World.cell?_spot (hq 0 (by omega)).1.1
  subst hspot
  have hlt : b < w.heap.size := lt_of_cell (v := .int .i64 (q 0).1.no) (by simpa [Addr.add] using (hq 0 (by omega)).1.1)
  refine ⟨_, (List.range len).map (fun i => (q i).1), rfl, .inr ⟨b, off, cap, by simp, hlt, fun i hi => ?_⟩, by simp; omega, ?_⟩
  · have hi' : i < len := by simpa using hi
    have e : ((List.range len).map (fun i => (q i).1)).getD i I0 = (q i).1 := by simp [List.getD, hi']
    rw [e]
    obtain ⟨⟨c0, c1, c2, c3, c4, c5⟩, hw, _⟩ := hq i hi'
    rw [Addr.add_lit] at c0 c1 c2 c3 c4 c5
    rw [← Nat.add_assoc] at c1 c2 c3 c4 c5
    exact ⟨_, _, ⟨c0, c1, c2, c3, c4, c5⟩, hw⟩
  · intro u hu
    obtain ⟨i, hi, rfl⟩ := List.mem_map.1 hu
    exact (hq i (by have := List.mem_range.1 hi; omega)).2.2

theorem openFieldsB {fuel : Nat} {cs : List Value} {x : DataW H × List MemPlace} (h : DataW.trod enc Tryz.prog w base (fun _ => true) held fuel 35 cs = some x) :
    ∃ (y : B) (tv ev iv : Value), cs = [tv, ev, iv, .int .i64 y.paid] ∧ (ER w tv y.tar ∧ ER w ev y.evs ∧ IR w iv y.invs) ∧ FineB y := by
  obtain ⟨xs, n, hn, _, hl, hxl, hf⟩ := DataW.trod_struct Tryz.underlying35 h
  have hl4 : cs.length = 4 := hl.trans (by kernel_rfl)
  obtain ⟨c0, c1, c2, c3, rfl⟩ := list4 hl4
  obtain ⟨x0, x1, x2, x3, rfl⟩ := list4 (by simpa using hxl)
  have k1 : Tryz.prog.cellsOf 3 = 1 := by kernel_rfl
  have k2 : Tryz.prog.cellsOf 31 = 1 := by kernel_rfl
  have k3 : Tryz.prog.cellsOf 32 = 1 := by kernel_rfl
  have k4 : Tryz.prog.cellsOf 33 = 1 := by kernel_rfl
  have h0 := hf 0 _ rfl
  have h1 := hf 1 _ rfl
  have h2 := hf 2 _ rfl
  have h3 := hf 3 _ rfl
  simp [k1, k2, k3, k4] at h0 h1 h2 h3
  obtain ⟨tv, tl, e0, ht, t1, t2⟩ := openLins h0
  obtain ⟨ev, el, e1, he, v1, v2⟩ := Evs.openEvs h1
  obtain ⟨iv, il, e2, hi, i1, i2⟩ := openInvs h2
  obtain ⟨paid, e3, _, _⟩ := DataW.trod_int Tryz.underlying3 h3
  simp only [List.cons.injEq, and_true] at e0 e1 e2 e3
  subst e0 e1 e2 e3
  exact ⟨⟨tl, el, il, paid⟩, _, _, _, rfl, ⟨ht, he, hi⟩, ⟨t1, t2⟩, ⟨v1, v2⟩, i1, i2⟩

set_option maxRecDepth 100000 in
/-- a bill that came in by value -/
theorem openBill {r : Reach} {b0 : Nat} {v : Value} {dd : DataW H} {p : List MemPlace} (hv : Value.okWide Tryz.prog w r b0 35 v) (h : DataW.Trod enc Tryz.prog w base (fun _ => true) held 35 v dd p) :
    ∃ v' x, v = v' ∧ BV w v' x ∧ FineB x := by
  obtain ⟨cs, rfl, hsz⟩ := okWide_struct Tryz.underlying35 hv
  obtain ⟨fuel, hf⟩ := h
  obtain ⟨y, tv, ev, iv, hcs, h1, h2⟩ := openFieldsB hf
  refine ⟨_, y, rfl, ⟨tv, ev, iv, ?_, h1⟩, h2⟩
  have : cs = #[tv, ev, iv, .int .i64 y.paid] := by
    apply Array.toList_inj.1
    simpa [Value.cells] using hcs
  rw [this]
end
end Go.Proofs.YtkdaljonmkfdaaaGreatDoor.Bills
end
