/-
  Slices of texts that came in, opened.
-/
import Derived.Test.YtgaflnkefjmblaaTxR
import Derived.Deep.SlicePairs
import Derived.Lib.SmallJoins
namespace Go.Proofs.Ytgaflnkefjmblaa.Txt
set_option linter.unusedVariables false
open Go.RowKit Go.Deep Go.ChangeShapes Go.WideShapes

section
variable {H : Type} {enc : TypeId × Value → H} {w : World} {base : Nat} {held : Bool}

theorem lt_of_cell {W : World} {b o : Nat} {v : Value} (h : W.cell? ⟨b, o, none⟩ = some v) : b < W.heap.size := by
  refine Nat.lt_of_not_le fun hn => ?_
  have h2 : W.heap[b]? = none := by simp; omega
  simp [World.cell?, h2] at h

theorem openTxts {fuel : Nat} {cs : List Value} {x : DataW H × List MemPlace} (h : DataW.trod enc Try.prog w base (fun _ => true) held fuel 23 cs = some x) :
    ∃ v l, cs = [v] ∧ TR w v l ∧ l.length ≤ maxLen ∧ ∀ u ∈ l, u.size ≤ maxLen := by
  rcases DataW.trod_slice Try.underlying23 h with ⟨rfl, _⟩ | ⟨a, len, cap, elems, rest, n, hfu, rfl, _, hb, hl, hm, hlen, hel, _, _⟩
  · exact ⟨_, [], rfl, .inl ⟨rfl, _, _, rfl⟩, by simp, by simp⟩
  have ce : Try.prog.cellsOf 9 = 1 := by kernel_rfl
  by_cases h0 : len = 0
  · subst h0
    exact ⟨_, [], rfl, .inl ⟨rfl, _, _, rfl⟩, by simp, by simp⟩
  have each : ∀ i, i < len → ∃ q : ByteArray, w.cell? (a.add i) = some (.string q) ∧ q.size ≤ maxLen := by
    intro i hi
    have h1 := hel i hi
    rw [List.getElem?_eq_getElem (by omega), ce] at h1
    obtain ⟨cs', h2, h3⟩ := Option.bind_eq_some_iff.1 h1
    obtain ⟨s, rfl, _, hs⟩ := DataW.trod_string Try.underlying9 h3
    obtain ⟨_, _, hcell⟩ := World.cells?_some h2
    have g0 := hcell 0 (by omega)
    rw [add_add] at g0
    exact ⟨s, by simpa using g0, hs⟩
  obtain ⟨q, hq⟩ := choose_lt each
  obtain ⟨b, off, spot⟩ := a
  have hspot : spot = none := by simpa [Addr.add] using World.cell?_spot (hq 0 (by omega)).1
  subst hspot
  have hlt : b < w.heap.size := lt_of_cell (v := .string (q 0)) (by simpa [Addr.add] using (hq 0 (by omega)).1)
  refine ⟨_, (List.range len).map q, rfl, .inr ⟨b, off, cap, by simp, hlt, fun i hi => ?_⟩, by simp; omega, ?_⟩
  · have hi' : i < len := by simpa using hi
    have e : ((List.range len).map q).getD i S0 = q i := by simp [List.getD, hi']
    rw [e]
    have c0 := (hq i hi').1
    rwa [Addr.add_lit] at c0
  · intro u hu
    obtain ⟨i, hi, rfl⟩ := List.mem_map.1 hu
    exact (hq i (by have := List.mem_range.1 hi; omega)).2
end
end Go.Proofs.Ytgaflnkefjmblaa.Txt
