/-
  What of the library's variables strconv and strings read; strconv.Atoi, strings.SplitN.
-/
import Derived.Test.YtlmdpfhabiakmaaGreatDoorText
import Derived.Test.YtlmdpfhabiakmaaGreatDoorShelfA
import Derived.Test.YtlmdpfhabiakmaaGreatDoorShelfN
import Derived.Lib.AtoiErrMem
import Derived.Lib.Split
namespace Go.Proofs.YtlmdpfhabiakmaaGreatDoor.EnvA
set_option linter.unusedVariables false
open Go.RowKit
open _root_.Go.Proofs.YtlmdpfhabiakmaaGreatDoor.Text (Tens var_kept)

def Env (w : World) : Prop := Tens w ∧ (∃ m, w.cell? ⟨2, 0, none⟩ = some (.int .i64 m)) ∧ (∃ tp p, w.var? Tryz.prog "strconv.ErrSyntax" = some #[.iface tp p]) ∧ (∃ tp p, w.var? Tryz.prog "strconv.ErrRange" = some #[.iface tp p])
theorem cell_lt {w : World} {q : Addr} {v : Value} (h : w.cell? q = some v) : q.block < w.heap.size := by
  refine Nat.lt_of_not_le fun hn => ?_
  have h2 : w.heap[q.block]? = none := by simp; omega
  simp [World.cell?, h2] at h
theorem Env.kept {w w' : World} (h : Env w) (hb : Below w.heap.size w w') : Env w' := by
  obtain ⟨h1, ⟨m, h2⟩, ⟨t1, p1, h3⟩, ⟨t2, p2, h4⟩⟩ := h
  exact ⟨h1.kept hb, ⟨m, by rw [hb.cell (cell_lt h2)]; exact h2⟩, ⟨t1, p1, var_kept h3 hb⟩, ⟨t2, p2, var_kept h4 hb⟩⟩

/-- strconv.Atoi -/
theorem atoiC (s : ByteArray) (w : World) (hs : s.size ≤ 1100000) (he : Env w) : Calls Tryz.prog 25 #[.string s] w fun e w' => ∃ (n : Int) (er : Value), e = .returned (.tuple #[.int .i64 n, er]) ∧ (∀ k, Lib.atoiAll s.data.toList = .ok k → n = k) ∧ Below w.heap.size w w' := by
  cases hA : Lib.atoiAll s.data.toList
  · next v =>
    refine (Tryz.strconv_Atoi_ok s (by omega) v hA _).mono ?_
    rintro e w2 ⟨rfl, hw2⟩
    refine ⟨v, _, rfl, fun k hk => (by cases hk; rfl), ?_⟩
    rcases hw2 with rfl | ⟨t, rfl⟩
    · exact Below.refl _ _
    · exact Lib.bytesWorld_below _ _ _
  · obtain ⟨tp, p, hv⟩ := he.2.2.1
    refine (Tryz.strconv_Atoi_syntax_var s (by omega) hA tp p _ hv).mono ?_
    rintro e w2 ⟨N, rfl, hN, hcells, hb2⟩
    exact ⟨_, _, rfl, fun k hk => (by cases hk), hb2⟩
  · obtain ⟨tp, p, hv⟩ := he.2.2.2
    refine (Tryz.strconv_Atoi_range_var s (by omega) hA tp p _ hv).mono ?_
    rintro e w2 ⟨N, rfl, hN, hcells, hb2⟩
    exact ⟨_, _, rfl, fun k hk => (by cases hk), hb2⟩

/-- strings.SplitN at a point, five pieces at most -/
theorem splitC (s : ByteArray) (w : World) (hs : s.size ≤ 1100000) (he : Env w) : Calls Tryz.prog 24 #[.string s, .string ⟨#[46]⟩, .int .i64 5] w fun e w' =>
    e = .returned (.slice (some ⟨w.heap.size, 0, none⟩) (Lib.splitB ⟨#[46]⟩ 0 (min 5 (s.size + 1) - 1) s).length (min 5 (s.size + 1))) ∧
    (∀ j x, (Lib.splitB ⟨#[46]⟩ 0 (min 5 (s.size + 1) - 1) s)[j]? = some x → w'.cell? ⟨w.heap.size, j, none⟩ = some (.string x)) ∧ w.heap.size < w'.heap.size ∧ Below w.heap.size w w' := by
  obtain ⟨m, hm⟩ := he.2.1
  refine (Tryz.strings_SplitN s ⟨#[46]⟩ 5 m w (by omega) hm (by decide) (by omega) (by omega)).mono ?_
  rintro e w' ⟨rfl, rfl⟩
  refine ⟨rfl, fun j x hx => ?_, by simp, (Below.refl _ _).alloc (Nat.le_refl _) _⟩
  have e1 := (MapKept.heap_alloc w (.cells (Lib.cellsOf (Lib.splitB ⟨#[46]⟩ 0 (min 5 (s.size + 1) - 1) s) (min 5 (s.size + 1))) 9)).1
  simp only [World.cell?]
  rw [e1]
  have hj := (List.getElem?_eq_some_iff.1 hx).1
  simp only [Lib.cellsOf, List.getElem?_toArray]
  rw [List.getElem?_append_left (by simpa using hj), List.getElem?_map, hx]; rfl
end Go.Proofs.YtlmdpfhabiakmaaGreatDoor.EnvA
