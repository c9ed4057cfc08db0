/-
  Arguments that came in, opened: bills.
-/
import Derived.Test.YtdjjgoeinkbmjaaInvs
import Derived.Test.YtdjjgoeinkbmjaaOpenV
namespace Go.Proofs.Ytdjjgoeinkbmjaa.Bills
set_option linter.unusedVariables false
open Go.RowKit Go.Deep Go.ChangeShapes Go.WideShapes
open Evs (E E0 ER EN EC EOwn lt_of_cell list3)
open BRow (R R0 RR RN RC ROwn)

section
variable {H : Type} {enc : TypeId × Value → H} {w : World} {base : Nat} {held : Bool}

theorem openFieldsL {fuel : Nat} {cs : List Value} {x : DataW H × List MemPlace} (h : DataW.trod enc Try.prog w base (fun _ => true) held fuel 163 cs = some x) :
    ∃ (s m : ByteArray) (q : Int), cs = [.string s, .string m, .int .i64 q] ∧ s.size ≤ maxLen ∧ m.size ≤ maxLen := by
  obtain ⟨xs, n, hn, _, hl, hxl, hf⟩ := DataW.trod_struct Try.underlying163 h
  have hl3 : cs.length = 3 := hl.trans (by kernel_rfl)
  obtain ⟨c0, c1, c2, rfl⟩ := list3 hl3
  obtain ⟨x0, x1, x2, rfl⟩ := list3 (by simpa using hxl)
  have k1 : Try.prog.cellsOf 3 = 1 := by kernel_rfl
  have k2 : Try.prog.cellsOf 9 = 1 := by kernel_rfl
  have h0 := hf 0 _ rfl
  have h1 := hf 1 _ rfl
  have h2 := hf 2 _ rfl
  simp [k1, k2] at h0 h1 h2
  obtain ⟨s, e0, _, hs⟩ := DataW.trod_string Try.underlying9 h0
  obtain ⟨m, e1, _, hm⟩ := DataW.trod_string Try.underlying9 h1
  obtain ⟨q, e2, _, _⟩ := DataW.trod_int Try.underlying3 h2
  simp only [List.cons.injEq, and_true] at e0 e1 e2
  subst e0 e1 e2
  exact ⟨s, m, q, rfl, hs, hm⟩

theorem openLins {fuel : Nat} {cs : List Value} {x : DataW H × List MemPlace} (h : DataW.trod enc Try.prog w base (fun _ => true) held fuel 64 cs = some x) :
    ∃ v l, cs = [v] ∧ ER w v l ∧ l.length ≤ maxLen ∧ ∀ u ∈ l, u.1.size ≤ maxLen ∧ u.2.1.size ≤ maxLen := by
  rcases DataW.trod_slice Try.underlying64 h with ⟨rfl, _⟩ | ⟨a, len, cap, elems, rest, n, hfu, rfl, _, hb, hl, hm, hlen, hel, _, _⟩
  · exact ⟨_, [], rfl, .inl ⟨rfl, _, _, rfl⟩, by simp, by simp⟩
  have ce : Try.prog.cellsOf 163 = 3 := by kernel_rfl
  by_cases h0 : len = 0
  · subst h0
    exact ⟨_, [], rfl, .inl ⟨rfl, _, _, rfl⟩, by simp, by simp⟩
  have each : ∀ i, i < len → ∃ q : E, (w.cell? (a.add (i * 3)) = some (.string q.1) ∧ w.cell? (a.add (i * 3 + 1)) = some (.string q.2.1) ∧ w.cell? (a.add (i * 3 + 2)) = some (.int .i64 q.2.2)) ∧ (q.1.size ≤ maxLen ∧ q.2.1.size ≤ maxLen) := by
    intro i hi
    have h1 := hel i hi
    rw [List.getElem?_eq_getElem (by omega), ce] at h1
    obtain ⟨cs', h2, h3⟩ := Option.bind_eq_some_iff.1 h1
    obtain ⟨s, m, q, rfl, hs, hm'⟩ := openFieldsL h3
    obtain ⟨_, _, hcell⟩ := World.cells?_some h2
    have g0 := hcell 0 (by omega)
    have g1 := hcell 1 (by omega)
    have g2 := hcell 2 (by omega)
    rw [add_add] at g0 g1 g2
    exact ⟨(s, m, q), ⟨by simpa using g0, by simpa using g1, by simpa using g2⟩, hs, hm'⟩
  obtain ⟨q, hq⟩ := choose_lt each
  obtain ⟨b, off, spot⟩ := a
  have hspot : spot = none := by simpa [Addr.add] using World.cell?_spot (hq 0 (by omega)).1.1
  subst hspot
  have hlt : b < w.heap.size := lt_of_cell (v := .string (q 0).1) (by simpa [Addr.add] using (hq 0 (by omega)).1.1)
  refine ⟨_, (List.range len).map q, rfl, .inr ⟨b, off, cap, by simp, hlt, fun i hi => ?_⟩, by simp; omega, ?_⟩
  · have hi' : i < len := by simpa using hi
    have e : ((List.range len).map q).getD i E0 = q i := by simp [List.getD, hi']
    rw [e]
    obtain ⟨⟨c0, c1, c2⟩, _⟩ := hq i hi'
    rw [Addr.add_lit] at c0 c1 c2
    rw [← Nat.add_assoc] at c1 c2
    exact ⟨c0, c1, c2⟩
  · intro u hu
    obtain ⟨i, hi, rfl⟩ := List.mem_map.1 hu
    exact (hq i (by have := List.mem_range.1 hi; omega)).2

theorem openFieldsR {fuel : Nat} {cs : List Value} {x : DataW H × List MemPlace} (h : DataW.trod enc Try.prog w base (fun _ => true) held fuel 221 cs = some x) :
    ∃ (s : ByteArray) (m q : Int), cs = [.string s, .int .i64 m, .int .i64 q] ∧ s.size ≤ maxLen := by
  obtain ⟨xs, n, hn, _, hl, hxl, hf⟩ := DataW.trod_struct Try.underlying221 h
  have hl3 : cs.length = 3 := hl.trans (by kernel_rfl)
  obtain ⟨c0, c1, c2, rfl⟩ := list3 hl3
  obtain ⟨x0, x1, x2, rfl⟩ := list3 (by simpa using hxl)
  have k1 : Try.prog.cellsOf 3 = 1 := by kernel_rfl
  have k2 : Try.prog.cellsOf 9 = 1 := by kernel_rfl
  have h0 := hf 0 _ rfl
  have h1 := hf 1 _ rfl
  have h2 := hf 2 _ rfl
  simp [k1, k2] at h0 h1 h2
  obtain ⟨s, e0, _, hs⟩ := DataW.trod_string Try.underlying9 h0
  obtain ⟨m, e1, _, _⟩ := DataW.trod_int Try.underlying3 h1
  obtain ⟨q, e2, _, _⟩ := DataW.trod_int Try.underlying3 h2
  simp only [List.cons.injEq, and_true] at e0 e1 e2
  subst e0 e1 e2
  exact ⟨s, m, q, rfl, hs⟩

theorem openRows {fuel : Nat} {cs : List Value} {x : DataW H × List MemPlace} (h : DataW.trod enc Try.prog w base (fun _ => true) held fuel 165 cs = some x) :
    ∃ v l, cs = [v] ∧ RR w v l ∧ l.length ≤ maxLen ∧ ∀ u ∈ l, u.1.size ≤ maxLen := by
  rcases DataW.trod_slice Try.underlying165 h with ⟨rfl, _⟩ | ⟨a, len, cap, elems, rest, n, hfu, rfl, _, hb, hl, hm, hlen, hel, _, _⟩
  · exact ⟨_, [], rfl, .inl ⟨rfl, _, _, rfl⟩, by simp, by simp⟩
  have ce : Try.prog.cellsOf 221 = 3 := by kernel_rfl
  by_cases h0 : len = 0
  · subst h0
    exact ⟨_, [], rfl, .inl ⟨rfl, _, _, rfl⟩, by simp, by simp⟩
  have each : ∀ i, i < len → ∃ q : R, (w.cell? (a.add (i * 3)) = some (.string q.1) ∧ w.cell? (a.add (i * 3 + 1)) = some (.int .i64 q.2.1) ∧ w.cell? (a.add (i * 3 + 2)) = some (.int .i64 q.2.2)) ∧ q.1.size ≤ maxLen := by
    intro i hi
    have h1 := hel i hi
    rw [List.getElem?_eq_getElem (by omega), ce] at h1
    obtain ⟨cs', h2, h3⟩ := Option.bind_eq_some_iff.1 h1
    obtain ⟨s, m, q, rfl, hs⟩ := openFieldsR h3
    obtain ⟨_, _, hcell⟩ := World.cells?_some h2
    have g0 := hcell 0 (by omega)
    have g1 := hcell 1 (by omega)
    have g2 := hcell 2 (by omega)
    rw [add_add] at g0 g1 g2
    exact ⟨(s, m, q), ⟨by simpa using g0, by simpa using g1, by simpa using g2⟩, hs⟩
  obtain ⟨q, hq⟩ := choose_lt each
  obtain ⟨b, off, spot⟩ := a
  have hspot : spot = none := by simpa [Addr.add] using World.cell?_spot (hq 0 (by omega)).1.1
  subst hspot
  have hlt : b < w.heap.size := lt_of_cell (v := .string (q 0).1) (by simpa [Addr.add] using (hq 0 (by omega)).1.1)
  refine ⟨_, (List.range len).map q, rfl, .inr ⟨b, off, cap, by simp, hlt, fun i hi => ?_⟩, by simp; omega, ?_⟩
  · have hi' : i < len := by simpa using hi
    have e : ((List.range len).map q).getD i R0 = q i := by simp [List.getD, hi']
    rw [e]
    obtain ⟨⟨c0, c1, c2⟩, _⟩ := hq i hi'
    rw [Addr.add_lit] at c0 c1 c2
    rw [← Nat.add_assoc] at c1 c2
    exact ⟨c0, c1, c2⟩
  · intro u hu
    obtain ⟨i, hi, rfl⟩ := List.mem_map.1 hu
    exact (hq i (by have := List.mem_range.1 hi; omega)).2

theorem list6 {α : Type} {cs : List α} (h : cs.length = 6) : ∃ a b c d e f, cs = [a, b, c, d, e, f] := by
  match cs, h with
  | [a, b, c, d, e, f], _ => exact ⟨a, b, c, d, e, f, rfl⟩
theorem list4 {α : Type} {cs : List α} (h : cs.length = 4) : ∃ a b c d, cs = [a, b, c, d] := by
  match cs, h with
  | [a, b, c, d], _ => exact ⟨a, b, c, d, rfl⟩

theorem openFieldsI {fuel : Nat} {cs : List Value} {x : DataW H × List MemPlace} (h : DataW.trod enc Try.prog w base (fun _ => true) held fuel 167 cs = some x) :
    ∃ (i : I) (rv ev : Value), cs = [.int .i64 i.no, rv, ev, .int .i64 i.net, .int .i64 i.tax, .int .i64 i.credit] ∧ IW w rv ev i ∧ FineI i := by
  obtain ⟨xs, n, hn, _, hl, hxl, hf⟩ := DataW.trod_struct Try.underlying167 h
  have hl6 : cs.length = 6 := hl.trans (by kernel_rfl)
  obtain ⟨c0, c1, c2, c3, c4, c5, rfl⟩ := list6 hl6
  obtain ⟨x0, x1, x2, x3, x4, x5, rfl⟩ := list6 (by simpa using hxl)
  have k1 : Try.prog.cellsOf 3 = 1 := by kernel_rfl
  have k2 : Try.prog.cellsOf 165 = 1 := by kernel_rfl
  have k3 : Try.prog.cellsOf 42 = 1 := by kernel_rfl
  have h0 := hf 0 _ rfl
  have h1 := hf 1 _ rfl
  have h2 := hf 2 _ rfl
  have h3 := hf 3 _ rfl
  have h4 := hf 4 _ rfl
  have h5 := hf 5 _ rfl
  simp [k1, k2, k3] at h0 h1 h2 h3 h4 h5
  obtain ⟨no, e0, _, _⟩ := DataW.trod_int Try.underlying3 h0
  obtain ⟨rv, rl, e1, hr, r1, r2⟩ := openRows h1
  obtain ⟨ev, el, e2, he, v1, v2⟩ := Evs.openEvs h2
  obtain ⟨net, e3, _, _⟩ := DataW.trod_int Try.underlying3 h3
  obtain ⟨tax, e4, _, _⟩ := DataW.trod_int Try.underlying3 h4
  obtain ⟨credit, e5, _, _⟩ := DataW.trod_int Try.underlying3 h5
  simp only [List.cons.injEq, and_true] at e0 e1 e2 e3 e4 e5
  subst e0 e1 e2 e3 e4 e5
  exact ⟨⟨no, rl, el, net, tax, credit⟩, _, _, rfl, ⟨hr, he⟩, ⟨r1, r2⟩, ⟨v1, v2⟩⟩

theorem openInvs {fuel : Nat} {cs : List Value} {x : DataW H × List MemPlace} (h : DataW.trod enc Try.prog w base (fun _ => true) held fuel 65 cs = some x) :
    ∃ v l, cs = [v] ∧ IR w v l ∧ FineIs l := by
  rcases DataW.trod_slice Try.underlying65 h with ⟨rfl, _⟩ | ⟨a, len, cap, elems, rest, n, hfu, rfl, _, hb, hl, hm, hlen, hel, _, _⟩
  · exact ⟨_, [], rfl, .inl ⟨rfl, _, _, rfl⟩, by simp, by simp⟩
  have ce : Try.prog.cellsOf 167 = 6 := by kernel_rfl
  by_cases h0 : len = 0
  · subst h0
    exact ⟨_, [], rfl, .inl ⟨rfl, _, _, rfl⟩, by simp, by simp⟩
  have each : ∀ i, i < len → ∃ q : I × Value × Value, (w.cell? (a.add (i * 6)) = some (.int .i64 q.1.no) ∧ w.cell? (a.add (i * 6 + 1)) = some q.2.1 ∧ w.cell? (a.add (i * 6 + 2)) = some q.2.2 ∧ w.cell? (a.add (i * 6 + 3)) = some (.int .i64 q.1.net) ∧ w.cell? (a.add (i * 6 + 4)) = some (.int .i64 q.1.tax) ∧ w.cell? (a.add (i * 6 + 5)) = some (.int .i64 q.1.credit)) ∧ IW w q.2.1 q.2.2 q.1 ∧ FineI q.1 := by
    intro i hi
    have h1 := hel i hi
    rw [List.getElem?_eq_getElem (by omega), ce] at h1
    obtain ⟨cs', h2, h3⟩ := Option.bind_eq_some_iff.1 h1
    obtain ⟨q, rv, ev, rfl, hw, hf⟩ := openFieldsI h3
    obtain ⟨_, _, hcell⟩ := World.cells?_some h2
    have g0 := hcell 0 (by omega)
    have g1 := hcell 1 (by omega)
    have g2 := hcell 2 (by omega)
    have g3 := hcell 3 (by omega)
    have g4 := hcell 4 (by omega)
    have g5 := hcell 5 (by omega)
    rw [add_add] at g0 g1 g2 g3 g4 g5
    exact ⟨(q, rv, ev), ⟨by simpa using g0, by simpa using g1, by simpa using g2, by simpa using g3, by simpa using g4, by simpa using g5⟩, hw, hf⟩
  obtain ⟨q, hq⟩ := choose_lt each
  obtain ⟨b, off, spot⟩ := a
  have hspot : spot = none := by simpa [Addr.add] using World.cell?_spot (hq 0 (by omega)).1.1
  subst hspot
  have hlt : b < w.heap.size := lt_of_cell (v := .int .i64 (q 0).1.no) (by simpa [Addr.add] using (hq 0 (by omega)).1.1)
  refine ⟨_, (List.range len).map (fun i => (q i).1), rfl, .inr ⟨b, off, cap, by simp, hlt, fun i hi => ?_⟩, by simp; omega, ?_⟩
  · have hi' : i < len := by simpa using hi
    have e : ((List.range len).map (fun i => (q i).1)).getD i I0 = (q i).1 := by simp [List.getD, hi']
    rw [e]
    obtain ⟨⟨c0, c1, c2, c3, c4, c5⟩, hw, _⟩ := hq i hi'
    rw [Addr.add_lit] at c0 c1 c2 c3 c4 c5
    rw [← Nat.add_assoc] at c1 c2 c3 c4 c5
    exact ⟨_, _, ⟨c0, c1, c2, c3, c4, c5⟩, hw⟩
  · intro u hu
    obtain ⟨i, hi, rfl⟩ := List.mem_map.1 hu
    exact (hq i (by have := List.mem_range.1 hi; omega)).2.2

theorem openFieldsB {fuel : Nat} {cs : List Value} {x : DataW H × List MemPlace} (h : DataW.trod enc Try.prog w base (fun _ => true) held fuel 67 cs = some x) :
    ∃ (y : B) (tv ev iv : Value), cs = [tv, ev, iv, .int .i64 y.paid] ∧ (ER w tv y.tar ∧ ER w ev y.evs ∧ IR w iv y.invs) ∧ FineB y := by
  obtain ⟨xs, n, hn, _, hl, hxl, hf⟩ := DataW.trod_struct Try.underlying67 h
  have hl4 : cs.length = 4 := hl.trans (by kernel_rfl)
  obtain ⟨c0, c1, c2, c3, rfl⟩ := list4 hl4
  obtain ⟨x0, x1, x2, x3, rfl⟩ := list4 (by simpa using hxl)
  have k1 : Try.prog.cellsOf 3 = 1 := by kernel_rfl
  have k2 : Try.prog.cellsOf 64 = 1 := by kernel_rfl
  have k3 : Try.prog.cellsOf 42 = 1 := by kernel_rfl
  have k4 : Try.prog.cellsOf 65 = 1 := by kernel_rfl
  have h0 := hf 0 _ rfl
  have h1 := hf 1 _ rfl
  have h2 := hf 2 _ rfl
  have h3 := hf 3 _ rfl
  simp [k1, k2, k3, k4] at h0 h1 h2 h3
  obtain ⟨tv, tl, e0, ht, t1, t2⟩ := openLins h0
  obtain ⟨ev, el, e1, he, v1, v2⟩ := Evs.openEvs h1
  obtain ⟨iv, il, e2, hi, i1, i2⟩ := openInvs h2
  obtain ⟨paid, e3, _, _⟩ := DataW.trod_int Try.underlying3 h3
  simp only [List.cons.injEq, and_true] at e0 e1 e2 e3
  subst e0 e1 e2 e3
  exact ⟨⟨tl, el, il, paid⟩, _, _, _, rfl, ⟨ht, he, hi⟩, ⟨t1, t2⟩, ⟨v1, v2⟩, i1, i2⟩

set_option maxRecDepth 100000 in
/-- a bill that came in by value -/
theorem openBill {r : Reach} {b0 : Nat} {v : Value} {dd : DataW H} {p : List MemPlace} (hv : Value.okWide Try.prog w r b0 67 v) (h : DataW.Trod enc Try.prog w base (fun _ => true) held 67 v dd p) :
    ∃ v' x, v = v' ∧ BV w v' x ∧ FineB x := by
  obtain ⟨cs, rfl, hsz⟩ := okWide_struct Try.underlying67 hv
  obtain ⟨fuel, hf⟩ := h
  obtain ⟨y, tv, ev, iv, hcs, h1, h2⟩ := openFieldsB hf
  refine ⟨_, y, rfl, ⟨tv, ev, iv, ?_, h1⟩, h2⟩
  have : cs = #[tv, ev, iv, .int .i64 y.paid] := by
    apply Array.toList_inj.1
    simpa [Value.cells] using hcs
  rw [this]
end
end Go.Proofs.Ytdjjgoeinkbmjaa.Bills
