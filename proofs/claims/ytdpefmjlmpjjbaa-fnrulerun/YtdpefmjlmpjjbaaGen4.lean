/-
  l2Rule: a drawn expression, bent now and then: what is kept on the way.
-/
import Derived.Test.YtdpefmjlmpjjbaaGen3
namespace Go.Proofs.Ytdpefmjlmpjjbaa.Draw
set_option linter.unusedVariables false
open Go.RowKit
open Rule (Ex EV ES TL Same wt wtL oth noE noL)

/-- W' is as W was behind w's box, but for block h -/
def Ag (w W W' : World) (h : Nat) : Prop := W.heap.size ≤ W'.heap.size ∧ ∀ j, w.heap.size + 1 ≤ j → j ≠ h → j < W.heap.size → W'.heap[j]? = W.heap[j]?
theorem Ag.refl (w W : World) (h : Nat) : Ag w W W h := ⟨Nat.le_refl _, fun _ _ _ _ => rfl⟩
theorem Ag.trans {w A B C : World} {h : Nat} (x : Ag w A B h) (y : Ag w B C h) : Ag w A C h := ⟨Nat.le_trans x.1 y.1, fun j h1 h2 h3 => (y.2 j h1 h2 (Nat.lt_of_lt_of_le h3 x.1)).trans (x.2 j h1 h2 h3)⟩
theorem Ag.grown {w W W' : World} {h b : Nat} (hg : W.grownBy W' (some b)) (hb : b ≤ w.heap.size) : Ag w W W' h := ⟨hg.size, fun j h1 _ h3 => hg.block j h3 (by simp; omega)⟩
theorem Ag.none {w W W' : World} {h : Nat} (hg : W.grownBy W' none) : Ag w W W' h := ⟨hg.size, fun j _ _ h3 => hg.block j h3 (by simp)⟩
theorem Ag.box {w W W' : World} {h : Nat} (hg : W.grownBy W' (some h)) : Ag w W W' h := ⟨hg.size, fun j _ h2 h3 => hg.block j h3 (by simpa using h2)⟩

/-- the kids stay what they are -/
def PE (w W : World) (h d : Nat) (kv : Value) (ks : List Ex) : Prop := ∀ W', Ag w W W' h → ES (w.heap.size + 1) W'.heap.size W' d kv ks
def PT (w W : World) (h : Nat) (tv : Value) (ts : List (Int × Int)) : Prop := ∀ W', Ag w W W' h → TL (w.heap.size + 1) W'.heap.size W' tv ts
theorem PE.next {w W W1 : World} {h d : Nat} {kv : Value} {ks : List Ex} (x : PE w W h d kv ks) (a : Ag w W W1 h) : PE w W1 h d kv ks := fun W' hW => x W' (a.trans hW)
theorem PT.next {w W W1 : World} {h : Nat} {tv : Value} {ts : List (Int × Int)} (x : PT w W h tv ts) (a : Ag w W W1 h) : PT w W1 h tv ts := fun W' hW => x W' (a.trans hW)

/-- under way: the reader, the result's box, the box h of the expression -/
structure Rs (w W : World) (b q h d : Nat) (k n : Int) (m : ByteArray) (kv tv : Value) (ks : List Ex) (ts : List (Int × Int)) : Prop where
  gs : Gs w W b q
  c0 : W.cell? ⟨h, 0, none⟩ = some (.int .i64 k)
  c1 : W.cell? ⟨h, 1, none⟩ = some (.int .i64 n)
  c2 : W.cell? ⟨h, 2, none⟩ = some (.string m)
  c3 : W.cell? ⟨h, 3, none⟩ = some kv
  c4 : W.cell? ⟨h, 4, none⟩ = some tv
  fz : ∀ j, W.frozen? ⟨h, j, none⟩ = false
  hh : w.heap.size < h ∧ h < W.heap.size
  pe : PE w W h d kv ks
  pt : PT w W h tv ts
  bd : m.size ≤ 20 ∧ ts.length ≤ 5 ∧ (wtL ks ≤ 90000 ∧ (m ≠ oth ∧ noL oth ks))

theorem Rs.next {w W W' : World} {b q q' h d : Nat} {k n : Int} {m : ByteArray} {kv tv : Value} {ks : List Ex} {ts : List (Int × Int)} (x : Rs w W b q h d k n m kv tv ks ts) (hg : W.grownBy W' (some b)) (hr : Rd W' b q') : Rs w W' b q' h d k n m kv tv ks ts := by
  have hb := x.gs.bw
  have hblk : W'.heap[h]? = W.heap[h]? := hg.block h x.hh.2 (by have := x.hh; simp; omega)
  have key : ∀ o : Nat, W'.cell? ⟨h, o, none⟩ = W.cell? ⟨h, o, none⟩ := fun o => World.cell?_of_block hblk
  have kf : ∀ j : Nat, W'.frozen? ⟨h, j, none⟩ = W.frozen? ⟨h, j, none⟩ := fun j => World.frozen?_of_block hblk
  exact ⟨x.gs.next hg hr, (key _).trans x.c0, (key _).trans x.c1, (key _).trans x.c2, (key _).trans x.c3, (key _).trans x.c4, fun j => (kf j).trans (x.fz j), ⟨x.hh.1, Nat.lt_of_lt_of_le x.hh.2 hg.size⟩, x.pe.next (Ag.grown hg (by omega)), x.pt.next (Ag.grown hg (by omega)), x.bd⟩
theorem Rs.alloc {w W : World} {b q h d : Nat} {k n : Int} {m : ByteArray} {kv tv : Value} {ks : List Ex} {ts : List (Int × Int)} (x : Rs w W b q h d k n m kv tv ks ts) (o : Obj) : Rs w (W.alloc o) b q h d k n m kv tv ks ts :=
  x.next (World.grownBy_alloc W _ _) (x.gs.alloc o).rd
theorem Rs.pick {w W : World} {b q h d : Nat} {k n : Int} {m : ByteArray} {kv tv : Value} {ks : List Ex} {ts : List (Int × Int)} (x : Rs w W b q h d k n m kv tv ks ts) (hq : q ≤ 1000000000) (N : Int) :
    Calls Try.prog 18 #[.pointer (some ⟨b, 0, none⟩), .int .i64 N] W fun e W' => ∃ r, e = .returned (.int .i64 r) ∧ 0 ≤ r ∧ (r < N ∨ r = 0) ∧ Rs w W' b (q + 1) h d k n m kv tv ks ts ∧ W.grownBy W' (some b) := by
  refine (Draw.pick N b q W x.gs.rd hq).mono ?_
  rintro e W1 ⟨r, rfl, r0, r1, hR1, hg1⟩
  exact ⟨r, rfl, r0, r1, x.next hg1 hR1, hg1⟩

theorem grown_drew1 (W : World) (r : Option Nat) : W.grownBy W.drew r := ⟨rfl, rfl, rfl, Nat.le_refl _, fun _ _ _ => rfl⟩
theorem Rs.drew {w W : World} {b q h d : Nat} {k n : Int} {m : ByteArray} {kv tv : Value} {ks : List Ex} {ts : List (Int × Int)} (x : Rs w W b q h d k n m kv tv ks ts) : Rs w W.drew b q h d k n m kv tv ks ts :=
  x.next (grown_drew1 W _) (x.gs.rd.kept (grown_drew1 W none) (by simp))
/-- the kept ones of new expressions -/
theorem PE.old {w W2 W3 : World} {lo h d : Nat} {kv : Value} {ks : List Ex} (hlo : w.heap.size + 1 ≤ lo) (hk : ES lo W2.heap.size W2 d kv ks) (hh : h = W2.heap.size) (ha : Ag w W2 W3 h) : PE w W3 h d kv ks := by
  subst hh
  intro W' hW
  have hA := ha.trans hW
  exact (hk.kept (fun j h1 h2 => hA.2 j (by omega) (by omega) h2)).mono hlo hA.1
theorem PT.old {w W2 W3 : World} {B h : Nat} {tv : Value} {ts : List (Int × Int)} (hB : w.heap.size + 1 ≤ B) (ht : TL B W2.heap.size W2 tv ts) (hh : h = W2.heap.size) (ha : Ag w W2 W3 h) : PT w W3 h tv ts := by
  subst hh
  intro W' hW
  have hA := ha.trans hW
  exact (ht.kept (fun j h1 h2 => hA.2 j (by omega) (by omega) h2)).mono hB hA.1

/-- what is handed out -/
def RuOut (w w' : World) (b p : Nat) (v : Value) : Prop := ∃ (e : Ex) (d q : Nat), EV w.heap.size w'.heap.size w' d v e ∧ (wt e ≤ 100000 ∧ noE oth e) ∧ Rd w' b q ∧ p ≤ q ∧ q ≤ p + 2000 ∧ w.grownBy w' (some b)
theorem Rs.out {w W : World} {b p q h d : Nat} {k n : Int} {m : ByteArray} {kv tv : Value} {ks : List Ex} {ts : List (Int × Int)} (x : Rs w W b q h d k n m kv tv ks ts) (h0 : p ≤ q) (h1 : q ≤ p + 2000) :
    RuOut w (put5 W w.heap.size (.int .i64 k) (.int .i64 n) (.string m) kv tv) b p (.agg #[.int .i64 k, .int .i64 n, .string m, kv, tv]) := by
  have hg := put5_grown W w.heap.size (.int .i64 k) (.int .i64 n) (.string m) kv tv
  have hb := x.gs.bw
  have hs := x.gs.size
  have hw' := x.gs.gr
  obtain ⟨b1, b2, b3⟩ := x.bd
  have ha : Ag w W (put5 W w.heap.size (.int .i64 k) (.int .i64 n) (.string m) kv tv) h := Ag.grown hg (Nat.le_refl _)
  refine ⟨.mk k n m ks ts, d, q, ⟨kv, tv, rfl, ⟨by show m.size ≤ maxLen; unfold maxLen; omega, by show ts.length ≤ maxLen; unfold maxLen; omega⟩, (x.pe _ ha).mono (by omega) (Nat.le_refl _), (x.pt _ ha).mono (by omega) (Nat.le_refl _)⟩, ?_, x.gs.rd.kept hg (fun j hj => by cases hj; omega), h0, h1, ?_⟩
  · exact ⟨by rw [Rule.wt_eq]; show m.size + wtL ks + ts.length ≤ _; omega, b3.2⟩
  · exact ⟨hg.os.trans hw'.os, hg.tape.trans hw'.tape, hg.output.trans hw'.output, Nat.le_trans hw'.size hg.size, fun j hj hne => (hg.block j (by omega) (by simp; omega)).trans (hw'.block j hj hne)⟩

/-- a cell of the box is written -/
theorem Gs.set {w W : World} {b q h : Nat} (x : Gs w W b q) (hh : w.heap.size < h) (o : Nat) (u : Value) : Gs w (W.setCell ⟨h, o, none⟩ u) b q := by
  have hg := gset W h o u
  have hb := x.bw
  have hw' := x.gr
  refine ⟨x.rd.kept hg (fun j hj => by cases hj; omega), ?_, hb, x.box.grown hg (by simp; omega)⟩
  exact ⟨hg.os.trans hw'.os, hg.tape.trans hw'.tape, hg.output.trans hw'.output, Nat.le_trans hw'.size hg.size, fun j hj hne => (hg.block j (Nat.lt_of_lt_of_le hj hw'.size) (by simp; omega)).trans (hw'.block j hj hne)⟩
theorem cell_o {W : World} {h i j : Nat} {u v : Value} (hij : i ≠ j) (hc : W.cell? ⟨h, j, none⟩ = some v) : (W.setCell ⟨h, i, none⟩ u).cell? ⟨h, j, none⟩ = some v :=
  (World.cell?_setCell_other _ _ _ _ (fun e => hij (by simp only [Addr.mk.injEq, and_true, true_and] at e; exact e))).trans hc
theorem Rs.setK {w W : World} {b q h d : Nat} {k n : Int} {m : ByteArray} {kv tv : Value} {ks : List Ex} {ts : List (Int × Int)} (x : Rs w W b q h d k n m kv tv ks ts) (k' : Int) : Rs w (W.setCell ⟨h, 0, none⟩ (.int .i64 k')) b q h d k' n m kv tv ks ts :=
  ⟨x.gs.set x.hh.1 _ _, World.cell?_setCell_same _ _ _ x.c0, cell_o (by omega) x.c1, cell_o (by omega) x.c2, cell_o (by omega) x.c3, cell_o (by omega) x.c4, fun j => by simpa [World.frozen?_setCell] using x.fz j, ⟨x.hh.1, by simpa using x.hh.2⟩, x.pe.next (Ag.box (gset _ _ _ _)), x.pt.next (Ag.box (gset _ _ _ _)), x.bd⟩
theorem Rs.setN {w W : World} {b q h d : Nat} {k n : Int} {m : ByteArray} {kv tv : Value} {ks : List Ex} {ts : List (Int × Int)} (x : Rs w W b q h d k n m kv tv ks ts) (n' : Int) : Rs w (W.setCell ⟨h, 1, none⟩ (.int .i64 n')) b q h d k n' m kv tv ks ts :=
  ⟨x.gs.set x.hh.1 _ _, cell_o (by omega) x.c0, World.cell?_setCell_same _ _ _ x.c1, cell_o (by omega) x.c2, cell_o (by omega) x.c3, cell_o (by omega) x.c4, fun j => by simpa [World.frozen?_setCell] using x.fz j, ⟨x.hh.1, by simpa using x.hh.2⟩, x.pe.next (Ag.box (gset _ _ _ _)), x.pt.next (Ag.box (gset _ _ _ _)), x.bd⟩
theorem Rs.setM {w W : World} {b q h d : Nat} {k n : Int} {m : ByteArray} {kv tv : Value} {ks : List Ex} {ts : List (Int × Int)} (x : Rs w W b q h d k n m kv tv ks ts) (m' : ByteArray) (hm : m'.size ≤ 20 ∧ m' ≠ oth) : Rs w (W.setCell ⟨h, 2, none⟩ (.string m')) b q h d k n m' kv tv ks ts :=
  ⟨x.gs.set x.hh.1 _ _, cell_o (by omega) x.c0, cell_o (by omega) x.c1, World.cell?_setCell_same _ _ _ x.c2, cell_o (by omega) x.c3, cell_o (by omega) x.c4, fun j => by simpa [World.frozen?_setCell] using x.fz j, ⟨x.hh.1, by simpa using x.hh.2⟩, x.pe.next (Ag.box (gset _ _ _ _)), x.pt.next (Ag.box (gset _ _ _ _)), ⟨hm.1, x.bd.2.1, x.bd.2.2.1, hm.2, x.bd.2.2.2.2⟩⟩
theorem Rs.setKids {w W : World} {b q h d d' : Nat} {k n : Int} {m : ByteArray} {kv tv kv' : Value} {ks ks' : List Ex} {ts : List (Int × Int)} (x : Rs w W b q h d k n m kv tv ks ts) (hk : PE w W h d' kv' ks') (hw : wtL ks' ≤ 90000 ∧ noL oth ks') : Rs w (W.setCell ⟨h, 3, none⟩ kv') b q h d' k n m kv' tv ks' ts :=
  ⟨x.gs.set x.hh.1 _ _, cell_o (by omega) x.c0, cell_o (by omega) x.c1, cell_o (by omega) x.c2, World.cell?_setCell_same _ _ _ x.c3, cell_o (by omega) x.c4, fun j => by simpa [World.frozen?_setCell] using x.fz j, ⟨x.hh.1, by simpa using x.hh.2⟩, hk.next (Ag.box (gset _ _ _ _)), x.pt.next (Ag.box (gset _ _ _ _)), ⟨x.bd.1, x.bd.2.1, hw.1, x.bd.2.2.2.1, hw.2⟩⟩
theorem Rs.setTiers {w W : World} {b q h d : Nat} {k n : Int} {m : ByteArray} {kv tv tv' : Value} {ks : List Ex} {ts ts' : List (Int × Int)} (x : Rs w W b q h d k n m kv tv ks ts) (ht : PT w W h tv' ts') (hw : ts'.length ≤ 5) : Rs w (W.setCell ⟨h, 4, none⟩ tv') b q h d k n m kv tv' ks ts' :=
  ⟨x.gs.set x.hh.1 _ _, cell_o (by omega) x.c0, cell_o (by omega) x.c1, cell_o (by omega) x.c2, cell_o (by omega) x.c3, World.cell?_setCell_same _ _ _ x.c4, fun j => by simpa [World.frozen?_setCell] using x.fz j, ⟨x.hh.1, by simpa using x.hh.2⟩, x.pe.next (Ag.box (gset _ _ _ _)), ht.next (Ag.box (gset _ _ _ _)), ⟨x.bd.1, hw, x.bd.2.2⟩⟩

/-- all of it becomes its own kid -/
theorem PE.wrap {w W : World} {b q h d : Nat} {k n : Int} {m : ByteArray} {kv tv : Value} {ks : List Ex} {ts : List (Int × Int)} (x : Rs w W b q h d k n m kv tv ks ts) (t : TypeId) : PE w (W.alloc (.cells #[.int .i64 k, .int .i64 n, .string m, kv, tv] t)) h (d + 1) (.slice (some ⟨W.heap.size, 0, none⟩) 1 1) [.mk k n m ks ts] := by
  intro W' hW
  have hA := (Ag.none (w := w) (h := h) (World.grownBy_alloc W (.cells #[.int .i64 k, .int .i64 n, .string m, kv, tv] t) none)).trans hW
  have hs := x.gs.size
  have hblk : W'.heap[W.heap.size]? = (W.alloc (.cells #[.int .i64 k, .int .i64 n, .string m, kv, tv] t)).heap[W.heap.size]? := hW.2 _ (by omega) (by have := x.hh.2; omega) (by simp)
  have key : ∀ o : Nat, W'.cell? ⟨W.heap.size, o, none⟩ = (#[Value.int .i64 k, .int .i64 n, .string m, kv, tv])[o]? := fun o => (World.cell?_of_block hblk).trans (cell_new _ _ _ _)
  refine .inr ⟨W.heap.size, 0, 1, rfl, by show 1 ≤ maxLen; unfold maxLen; omega, by omega, by have := hW.1; simp at this; omega, fun i hi => ?_⟩
  obtain rfl : i = 0 := by simpa using hi
  obtain ⟨b1, b2, _⟩ := x.bd
  refine ⟨kv, tv, ⟨key _, key _, key _, key _, key _⟩, ⟨?_, ?_⟩, x.pe _ hA, x.pt _ hA⟩
  · show m.size ≤ maxLen; unfold maxLen; omega
  · show ts.length ≤ maxLen; unfold maxLen; omega
theorem Rs.allSet {w W : World} {b q h d d' : Nat} {k n k' : Int} {m : ByteArray} {kv tv kv' : Value} {ks ks' : List Ex} {ts : List (Int × Int)} (x : Rs w W b q h d k n m kv tv ks ts) (hk : PE w W h d' kv' ks') (hw : wtL ks' ≤ 90000 ∧ noL oth ks') : Rs w (put5 W h (.int .i64 k') (.int .i64 0) (.string ⟨#[]⟩) kv' (.slice none 0 0)) b q h d' k' 0 ⟨#[]⟩ kv' (.slice none 0 0) ks' [] := by
  have hpt : ∀ W, PT w W h (.slice none 0 0) [] := fun W W' _ => .inl ⟨rfl, _, _, rfl⟩
  have y := (((x.setK k').setN 0).setM ⟨#[]⟩ ⟨by decide, Rule.nil_oth⟩).setKids (hk.next (Ag.box (grown_trans (grown_trans (gset _ _ _ _) (gset _ _ _ _)) (gset _ _ _ _)))) hw
  exact y.setTiers (hpt _) (by simp)
theorem put5_past (W : World) (o : Obj) (h : Nat) (hh : h < W.heap.size) (a b c d e : Value) : put5 (W.alloc o) h a b c d e = (put5 W h a b c d e).alloc o := by
  unfold put5
  rw [World.setCell_alloc_past _ _ _ _ hh, World.setCell_alloc_past _ _ _ _ (by simpa using hh), World.setCell_alloc_past _ _ _ _ (by simpa using hh), World.setCell_alloc_past _ _ _ _ (by simpa using hh), World.setCell_alloc_past _ _ _ _ (by simpa using hh)]
theorem Rs.wrapA {w W : World} {b q h d : Nat} {k n : Int} {m : ByteArray} {kv tv : Value} {ks : List Ex} {ts : List (Int × Int)} (x : Rs w W b q h d k n m kv tv ks ts) (t : TypeId) (hw : wtL [Ex.mk k n m ks ts] ≤ 90000) :
    Rs w ((put5 W h (.int .i64 6) (.int .i64 0) (.string ⟨#[]⟩) (.slice (some ⟨W.heap.size, 0, none⟩) 1 1) (.slice none 0 0)).alloc (.cells #[.int .i64 k, .int .i64 n, .string m, kv, tv] t)) b q h (d + 1) 6 0 ⟨#[]⟩ (.slice (some ⟨W.heap.size, 0, none⟩) 1 1) (.slice none 0 0) [.mk k n m ks ts] [] := by
  rw [← put5_past W _ h x.hh.2]
  exact (x.alloc _).allSet (PE.wrap x t) ⟨hw, Rule.noL1 x.bd.2.2.2⟩
end Go.Proofs.Ytdpefmjlmpjjbaa.Draw
