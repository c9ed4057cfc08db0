/-
  Arguments that came in, opened: slices of uses.
-/
import Derived.Test.YtjjfmpinekiheaaUses
import Derived.Deep.SlicePairs
namespace Go.Proofs.Ytjjfmpinekiheaa.Uses
set_option linter.unusedVariables false
open Go.RowKit Go.Deep

section
variable {H : Type} {enc : TypeId × Value → H} {w : World} {base : Nat} {held : Bool}

theorem lt_of_cell {W : World} {b o : Nat} {v : Value} (h : W.cell? ⟨b, o, none⟩ = some v) : b < W.heap.size := by
  refine Nat.lt_of_not_le fun hn => ?_
  have h2 : W.heap[b]? = none := by simp; omega
  simp [World.cell?, h2] at h

theorem openUses {fuel : Nat} {cs : List Value} {x : DataW H × List MemPlace} (h : DataW.trod enc Try.prog w base (fun _ => true) held fuel 54 cs = some x) :
    ∃ v l, cs = [v] ∧ UR w v l ∧ l.length ≤ maxLen ∧ ∀ u ∈ l, u.1.size ≤ maxLen := by
  rcases open_slice_pairs Try.underlying54 Try.underlying93 (by kernel_rfl) rfl rfl (by kernel_rfl) (by kernel_rfl) h with ⟨rfl, _⟩ | ⟨a, len, cap, m, n, V0, V1, D0, D1, P0, P1, rfl, hb, hl, hm, hmm, _, hx⟩
  · exact ⟨_, [], rfl, .inl ⟨rfl, _, _, rfl⟩, by simp, by simp⟩
  · simp only [if_true] at hmm
    subst hmm
    have each : ∀ i, i < m → ∃ u : U, V0 i = .string u.1 ∧ V1 i = .int .i64 u.2 ∧ u.1.size ≤ maxLen := fun i hi => by
      obtain ⟨_, _, h2, h3⟩ := hx i hi
      obtain ⟨s, e1, _, hs⟩ := DataW.trod_string Try.underlying9 h2
      obtain ⟨q, e2, _, _⟩ := DataW.trod_int Try.underlying3 h3
      simp only [List.cons.injEq, and_true] at e1 e2
      exact ⟨(s, q), e1, e2, hs⟩
    obtain ⟨f, hf⟩ := choose_lt each
    by_cases h0 : len = 0
    · subst h0
      exact ⟨_, [], rfl, .inl ⟨rfl, _, _, rfl⟩, by simp, by simp⟩
    · obtain ⟨b, off, spot⟩ := a
      have hspot : spot = none := by simpa [Addr.add] using World.cell?_spot (hx 0 (by omega)).1
      subst hspot
      have hlt : b < w.heap.size := lt_of_cell (v := V0 0) (by simpa [Addr.add] using (hx 0 (by omega)).1)
      refine ⟨_, (List.range len).map f, rfl, .inr ⟨b, off, m, by simp, hlt, fun i hi => ?_⟩, by simp; omega, ?_⟩
      · have hi' : i < len := by simpa using hi
        have h1 := (hx i (by omega)).1
        have h2 := (hx i (by omega)).2.1
        rw [Addr.add_lit] at h1 h2
        rw [← Nat.add_assoc] at h2
        have e : ((List.range len).map f).getD i U0 = f i := by simp [List.getD, hi']
        rw [e, h1, h2, (hf i (by omega)).1, (hf i (by omega)).2.1]
        exact ⟨rfl, rfl⟩
      · intro u hu
        obtain ⟨i, hi, rfl⟩ := List.mem_map.1 hu
        exact (hf i (by have := List.mem_range.1 hi; omega)).2.2
end
end Go.Proofs.Ytjjfmpinekiheaa.Uses
