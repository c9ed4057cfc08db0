/-
  Arguments that came in, opened: slices of events, and an event by value.
-/
import Derived.Test.YtdjjgoeinkbmjaaEvs
import Derived.Deep.SlicePairs
import Derived.Lib.SmallJoins
namespace Go.Proofs.Ytdjjgoeinkbmjaa.Evs
set_option linter.unusedVariables false
open Go.RowKit Go.Deep Go.ChangeShapes Go.WideShapes

section
variable {H : Type} {enc : TypeId × Value → H} {w : World} {base : Nat} {held : Bool}

theorem lt_of_cell {W : World} {b o : Nat} {v : Value} (h : W.cell? ⟨b, o, none⟩ = some v) : b < W.heap.size := by
  refine Nat.lt_of_not_le fun hn => ?_
  have h2 : W.heap[b]? = none := by simp; omega
  simp [World.cell?, h2] at h

theorem list3 {α : Type} {cs : List α} (h : cs.length = 3) : ∃ a b c, cs = [a, b, c] := by
  match cs, h with
  | [a, b, c], _ => exact ⟨a, b, c, rfl⟩

theorem openFieldsV {fuel : Nat} {cs : List Value} {x : DataW H × List MemPlace} (h : DataW.trod enc Try.prog w base (fun _ => true) held fuel 50 cs = some x) :
    ∃ (s m : ByteArray) (q : Int), cs = [.string s, .string m, .int .i64 q] ∧ s.size ≤ maxLen ∧ m.size ≤ maxLen := by
  obtain ⟨xs, n, hn, _, hl, hxl, hf⟩ := DataW.trod_struct Try.underlying50 h
  have hl3 : cs.length = 3 := hl.trans (by kernel_rfl)
  obtain ⟨c0, c1, c2, rfl⟩ := list3 hl3
  obtain ⟨x0, x1, x2, rfl⟩ := list3 (by simpa using hxl)
  have k1 : Try.prog.cellsOf 3 = 1 := by kernel_rfl
  have k2 : Try.prog.cellsOf 9 = 1 := by kernel_rfl
  have h0 := hf 0 _ rfl
  have h1 := hf 1 _ rfl
  have h2 := hf 2 _ rfl
  simp [k1, k2] at h0 h1 h2
  obtain ⟨s, e0, _, hs⟩ := DataW.trod_string Try.underlying9 h0
  obtain ⟨m, e1, _, hm⟩ := DataW.trod_string Try.underlying9 h1
  obtain ⟨q, e2, _, _⟩ := DataW.trod_int Try.underlying3 h2
  simp only [List.cons.injEq, and_true] at e0 e1 e2
  subst e0 e1 e2
  exact ⟨s, m, q, rfl, hs, hm⟩

theorem openEvs {fuel : Nat} {cs : List Value} {x : DataW H × List MemPlace} (h : DataW.trod enc Try.prog w base (fun _ => true) held fuel 42 cs = some x) :
    ∃ v l, cs = [v] ∧ ER w v l ∧ l.length ≤ maxLen ∧ ∀ u ∈ l, u.1.size ≤ maxLen ∧ u.2.1.size ≤ maxLen := by
  rcases DataW.trod_slice Try.underlying42 h with ⟨rfl, _⟩ | ⟨a, len, cap, elems, rest, n, hfu, rfl, _, hb, hl, hm, hlen, hel, _, _⟩
  · exact ⟨_, [], rfl, .inl ⟨rfl, _, _, rfl⟩, by simp, by simp⟩
  have ce : Try.prog.cellsOf 50 = 3 := by kernel_rfl
  by_cases h0 : len = 0
  · subst h0
    exact ⟨_, [], rfl, .inl ⟨rfl, _, _, rfl⟩, by simp, by simp⟩
  have each : ∀ i, i < len → ∃ q : E, (w.cell? (a.add (i * 3)) = some (.string q.1) ∧ w.cell? (a.add (i * 3 + 1)) = some (.string q.2.1) ∧ w.cell? (a.add (i * 3 + 2)) = some (.int .i64 q.2.2)) ∧ (q.1.size ≤ maxLen ∧ q.2.1.size ≤ maxLen) := by
    intro i hi
    have h1 := hel i hi
    rw [List.getElem?_eq_getElem (by omega), ce] at h1
    obtain ⟨cs', h2, h3⟩ := Option.bind_eq_some_iff.1 h1
    obtain ⟨s, m, q, rfl, hs, hm'⟩ := openFieldsV h3
    obtain ⟨_, _, hcell⟩ := World.cells?_some h2
    have g0 := hcell 0 (by omega)
    have g1 := hcell 1 (by omega)
    have g2 := hcell 2 (by omega)
    rw [add_add] at g0 g1 g2
    exact ⟨(s, m, q), ⟨by simpa using g0, by simpa using g1, by simpa using g2⟩, hs, hm'⟩
  obtain ⟨q, hq⟩ := choose_lt each
  obtain ⟨b, off, spot⟩ := a
  have hspot : spot = none := by simpa [Addr.add] using World.cell?_spot (hq 0 (by omega)).1.1
  subst hspot
  have hlt : b < w.heap.size := lt_of_cell (v := .string (q 0).1) (by simpa [Addr.add] using (hq 0 (by omega)).1.1)
  refine ⟨_, (List.range len).map q, rfl, .inr ⟨b, off, cap, by simp, hlt, fun i hi => ?_⟩, by simp; omega, ?_⟩
  · have hi' : i < len := by simpa using hi
    have e : ((List.range len).map q).getD i E0 = q i := by simp [List.getD, hi']
    rw [e]
    obtain ⟨⟨c0, c1, c2⟩, _⟩ := hq i hi'
    rw [Addr.add_lit] at c0 c1 c2
    rw [← Nat.add_assoc] at c1 c2
    exact ⟨c0, c1, c2⟩
  · intro u hu
    obtain ⟨i, hi, rfl⟩ := List.mem_map.1 hu
    exact (hq i (by have := List.mem_range.1 hi; omega)).2

set_option maxRecDepth 100000 in
/-- an event that came in by value -/
theorem openEv {r : Reach} {b0 : Nat} {v : Value} {dd : DataW H} {p : List MemPlace} (hv : Value.okWide Try.prog w r b0 50 v) (h : DataW.Trod enc Try.prog w base (fun _ => true) held 50 v dd p) :
    ∃ v' e, v = v' ∧ v' = eV e ∧ e.1.size ≤ maxLen ∧ e.2.1.size ≤ maxLen := by
  obtain ⟨cs, rfl, hsz⟩ := okWide_struct Try.underlying50 hv
  obtain ⟨fuel, hf⟩ := h
  obtain ⟨s, m, q, hcs, hs, hm⟩ := openFieldsV hf
  refine ⟨_, (s, m, q), rfl, ?_, hs, hm⟩
  have : cs = #[.string s, .string m, .int .i64 q] := by
    apply Array.toList_inj.1
    simpa [Value.cells] using hcs
  rw [this]
set_option maxRecDepth 100000 in
theorem openEv2 {r : Reach} {b0 : Nat} {v : Value} {dd : DataW H} {p : List MemPlace} (hv : Value.okWide Try.prog w r b0 50 v) (h : DataW.Trod enc Try.prog w base (fun _ => true) held 50 v dd p) :
    ∃ e : E, v = eV e ∧ e.1.size ≤ maxLen ∧ e.2.1.size ≤ maxLen := by
  obtain ⟨v', e, rfl, h1, h2, h3⟩ := openEv hv h
  exact ⟨e, h1, h2, h3⟩
end
end Go.Proofs.Ytdjjgoeinkbmjaa.Evs
