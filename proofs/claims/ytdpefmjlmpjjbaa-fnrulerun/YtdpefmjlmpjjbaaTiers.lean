/-
  Slices of steps (two numbers) in memory, and the laws' own helpers on them: size, copy, compare.
-/
import Derived.Test.YtdpefmjlmpjjbaaProg
import Derived.WalkKit
import Derived.WalkLawsBesides
import Derived.Below
import Derived.Deep.QuietTactic
import Derived.BigQuiet
import Derived.Deep.OwnRows
import Derived.WalkMore
import Derived.Outline
import Derived.Deep.RegionHeld3
import Derived.Lib.Strings
namespace Go.Proofs.Ytdpefmjlmpjjbaa.Tiers
set_option linter.unusedVariables false
open Go.RowKit

theorem hide {p : Prop} (h : p) : Hid p := h
theorem unhide {p : Prop} (h : Hid p) : p := h

abbrev T := Int × Int
abbrev T0 : T := (0, 0)

/-- from o on block b holds the steps l -/
def TC (W : World) (b o : Nat) (l : List T) : Prop := b < W.heap.size ∧ ∀ i, i < l.length → W.cell? ⟨b, o + i * 2, none⟩ = some (.int .i64 (l.getD i T0).1) ∧ W.cell? ⟨b, o + i * 2 + 1, none⟩ = some (.int .i64 (l.getD i T0).2)

/-- the slice v holds the steps l -/
def TR (W : World) (v : Value) (l : List T) : Prop :=
  (l = [] ∧ ∃ a c, v = .slice a 0 c) ∨ ∃ b o cap, v = .slice (some ⟨b, o, none⟩) l.length cap ∧ TC W b o l

theorem TC.kept {W W' : World} {b o : Nat} {l : List T} (h : TC W b o l) (hb : Below W.heap.size W W') : TC W' b o l :=
  ⟨Nat.lt_of_lt_of_le h.1 hb.size, fun i hi => ⟨(hb.cell (p := ⟨b, o + i * 2, none⟩) h.1).trans (h.2 i hi).1, (hb.cell (p := ⟨b, o + i * 2 + 1, none⟩) h.1).trans (h.2 i hi).2⟩⟩
theorem TR.kept {W W' : World} {v : Value} {l : List T} (h : TR W v l) (hb : Below W.heap.size W W') : TR W' v l := by
  rcases h with h | ⟨b, o, cap, rfl, hc⟩
  · exact .inl h
  · exact .inr ⟨b, o, cap, rfl, hc.kept hb⟩
theorem below_trans {w w1 w2 : World} (h : Below w.heap.size w w1) (k : Below w1.heap.size w1 w2) : Below w.heap.size w w2 := h.trans (k.mono h.size)

/-! ### The copy -/

/-- a row of steps of the call's own: block b holds l, nothing of it is frozen -/
def TOwn (W : World) (b : Nat) (l : List T) : Prop := TC W b 0 l ∧ ∀ j, W.frozen? ⟨b, j, none⟩ = false

theorem TOwn.set {W : World} {b : Nat} {l : List T} (h : TOwn W b l) {k : Nat} (hk : k < l.length) (x : T) :
    TOwn ((W.setCell ⟨b, 0 + k * 2, none⟩ (.int .i64 x.1)).setCell ⟨b, 0 + k * 2 + 1, none⟩ (.int .i64 x.2)) b (l.set k x) := by
  refine ⟨⟨by simpa using h.1.1, fun i hi => ?_⟩, fun j => by simpa [World.frozen?_setCell] using h.2 j⟩
  have hi' : i < l.length := by simpa using hi
  obtain ⟨c0, c1⟩ := h.1.2 i hi'
  by_cases e : i = k
  · subst e
    rw [List.getD_eq_getElem?_getD, List.getElem?_set_self hi']
    refine ⟨?_, ?_⟩
    · rw [World.cell?_setCell_other _ _ _ _ (by simp)]
      exact World.cell?_setCell_same _ _ _ c0
    · exact World.cell?_setCell_same _ _ _ (by rw [World.cell?_setCell_other _ _ _ _ (by simp)]; exact c1)
  · rw [World.cell?_setCell_other _ _ _ _ (by simp), World.cell?_setCell_other _ _ _ _ (by simp), World.cell?_setCell_other _ _ _ _ (by simp), World.cell?_setCell_other _ _ _ _ (by simp), c0, c1, List.getD_eq_getElem?_getD, List.getD_eq_getElem?_getD, List.getElem?_set_ne (by omega)]
    exact ⟨rfl, rfl⟩

theorem TOwn.kept {W W' : World} {b : Nat} {l : List T} (h : TOwn W b l) (hb : Below W.heap.size W W') : TOwn W' b l :=
  ⟨h.1.kept hb, fun j => (hb.frozen (p := ⟨b, j, none⟩) h.1.1).trans (h.2 j)⟩

theorem infoT : (Try.prog.info? 56).map (fun i => (i.zero, i.size, i.bytes)) = some (some (.agg #[.int .i64 0, .int .i64 0]), 2, 16) := by kernel_rfl

theorem makeT (n : Nat) (hn : n ≤ 1048576) (w : World) : (Instr.makeSlice 24 (.int .i64 (n : Int)) (.int .i64 (n : Int))).run Try.prog w = .ok (.slice (some ⟨w.heap.size, 0, none⟩) n n) (w.alloc (.cells (madeCells #[.int .i64 0, .int .i64 0] (n * 2)) 56)) := by
  obtain ⟨i, hi, h2⟩ := Option.map_eq_some_iff.1 infoT
  simp only [Prod.mk.injEq] at h2
  obtain ⟨hz, hs, hb⟩ := h2
  have := run_make (P := Try.prog) w 24 56 i _ Try.underlying24 hi hz .i64 .i64 n n (by omega) (by omega) (by rw [hb]; omega) (by omega)
  have e : (Value.agg #[.int .i64 0, .int .i64 0]).cells = #[.int .i64 0, .int .i64 0] := rfl
  rw [hs, e] at this
  simpa using this

theorem TOwn.made (w : World) (n : Nat) (t : TypeId) : TOwn (w.alloc (.cells (madeCells #[.int .i64 0, .int .i64 0] (n * 2)) t)) w.heap.size (List.replicate n T0) := by
  have e1 := (MapKept.heap_alloc w (.cells (madeCells #[.int .i64 0, .int .i64 0] (n * 2)) t)).1
  refine ⟨⟨by simp, fun i hi => ?_⟩, fun j => ?_⟩
  · have hi' : i < n := by simpa using hi
    have m0 : i * 2 % 2 = 0 := by omega
    have m1 : (i * 2 + 1) % 2 = 1 := by omega
    have l0 : i * 2 < n * 2 := by omega
    have l1 : i * 2 + 1 < n * 2 := by omega
    simp only [World.cell?]
    rw [e1]
    constructor
    · simp [madeCells, hi', l0, m0]
    · simp [madeCells, hi', l1, m1]
  · simp only [World.frozen?]
    rw [e1]; simp

theorem copy_step (l : List T) (k : Nat) (h : k < l.length) : (l.take k ++ List.replicate (l.length - k) T0).set k (l.getD k T0) = l.take (k + 1) ++ List.replicate (l.length - (k + 1)) T0 := by
  have e : l.length - k = (l.length - (k + 1)) + 1 := by omega
  rw [e, List.replicate_succ, List.set_append_right _ _ (by simp; omega)]
  have e2 : k - (l.take k).length = 0 := by simp; omega
  rw [e2, List.set_cons_zero]
  have e3 : l.take (k + 1) = l.take k ++ [l.getD k T0] := by rw [List.take_add_one, List.getElem?_eq_getElem h]; simp [List.getD, h]
  rw [e3, List.append_assoc]; rfl

theorem below_drewN' {B : Nat} {a w : World} (h : Below B a w) (k : Nat) : Below B a (w.drewN k) := ⟨h.os, h.tape, h.output, h.size, h.block⟩
theorem below_of_drew {B : Nat} {a w : World} (h : Below B a.drew w) : Below B a w := ⟨h.os, h.tape, h.output, h.size, h.block⟩
theorem below_of_drewN {B : Nat} {a w : World} {k : Nat} (h : Below B (a.drewN k) w) : Below B a w := ⟨h.os, h.tape, h.output, h.size, h.block⟩

end Go.Proofs.Ytdpefmjlmpjjbaa.Tiers
