/-
  Texts of this proof laid together, in build order; each says of itself what it holds.
-/
import Derived.Test.YtogkkkollmcijaaGreatDoorZai
import Derived.ArgAppend
import Derived.Deep.RegionHeldLaw
import Derived.Deep.RegionLaw
import Derived.Test.YtogkkkollmcijaaGreatDoorZag
import Derived.Deep.RegionHeld3
section
/-
  l2Rule: a drawn expression, bent now and then: what is kept on the way.
-/
namespace Go.Proofs.YtogkkkollmcijaaGreatDoor.Draw
set_option linter.unusedVariables false
open Go.RowKit
open Rule (Ex EV ES TL Same wt wtL oth noE noL)

/-- W' is as W was behind w's box, but for block h -/
def Ag (w W W' : World) (h : Nat) : Prop := W.heap.size ≤ W'.heap.size ∧ ∀ j, w.heap.size + 1 ≤ j → j ≠ h → j < W.heap.size → W'.heap[j]? = W.heap[j]?
theorem Ag.refl (w W : World) (h : Nat) : Ag w W W h := ⟨Nat.le_refl _, fun _ _ _ _ => rfl⟩
theorem Ag.trans {w A B C : World} {h : Nat} (x : Ag w A B h) (y : Ag w B C h) : Ag w A C h := ⟨Nat.le_trans x.1 y.1, fun j h1 h2 h3 => (y.2 j h1 h2 (Nat.lt_of_lt_of_le h3 x.1)).trans (x.2 j h1 h2 h3)⟩
theorem Ag.grown {w W W' : World} {h b : Nat} (hg : W.grownBy W' (some b)) (hb : b ≤ w.heap.size) : Ag w W W' h := ⟨hg.size, fun j h1 _ h3 => hg.block j h3 (by simp; omega)⟩
theorem Ag.none {w W W' : World} {h : Nat} (hg : W.grownBy W' none) : Ag w W W' h := ⟨hg.size, fun j _ _ h3 => hg.block j h3 (by simp)⟩
theorem Ag.box {w W W' : World} {h : Nat} (hg : W.grownBy W' (some h)) : Ag w W W' h := ⟨hg.size, fun j _ h2 h3 => hg.block j h3 (by simpa using h2)⟩

/-- the kids stay what they are -/
def PE (w W : World) (h d : Nat) (kv : Value) (ks : List Ex) : Prop := ∀ W', Ag w W W' h → ES (w.heap.size + 1) W'.heap.size W' d kv ks
def PT (w W : World) (h : Nat) (tv : Value) (ts : List (Int × Int)) : Prop := ∀ W', Ag w W W' h → TL (w.heap.size + 1) W'.heap.size W' tv ts
theorem PE.next {w W W1 : World} {h d : Nat} {kv : Value} {ks : List Ex} (x : PE w W h d kv ks) (a : Ag w W W1 h) : PE w W1 h d kv ks := fun W' hW => x W' (a.trans hW)
theorem PT.next {w W W1 : World} {h : Nat} {tv : Value} {ts : List (Int × Int)} (x : PT w W h tv ts) (a : Ag w W W1 h) : PT w W1 h tv ts := fun W' hW => x W' (a.trans hW)

/-- under way: the reader, the result's box, the box h of the expression -/
structure Rs (w W : World) (b q h d : Nat) (k n : Int) (m : ByteArray) (kv tv : Value) (ks : List Ex) (ts : List (Int × Int)) : Prop where
  gs : Gs w W b q
  c0 : W.cell? ⟨h, 0, none⟩ = some (.int .i64 k)
  c1 : W.cell? ⟨h, 1, none⟩ = some (.int .i64 n)
  c2 : W.cell? ⟨h, 2, none⟩ = some (.string m)
  c3 : W.cell? ⟨h, 3, none⟩ = some kv
  c4 : W.cell? ⟨h, 4, none⟩ = some tv
  fz : ∀ j, W.frozen? ⟨h, j, none⟩ = false
  hh : w.heap.size < h ∧ h < W.heap.size
  pe : PE w W h d kv ks
  pt : PT w W h tv ts
  bd : m.size ≤ 20 ∧ ts.length ≤ 5 ∧ (wtL ks ≤ 90000 ∧ (m ≠ oth ∧ noL oth ks))

theorem Rs.next {w W W' : World} {b q q' h d : Nat} {k n : Int} {m : ByteArray} {kv tv : Value} {ks : List Ex} {ts : List (Int × Int)} (x : Rs w W b q h d k n m kv tv ks ts) (hg : W.grownBy W' (some b)) (hr : Rd W' b q') : Rs w W' b q' h d k n m kv tv ks ts := by
  have hb := x.gs.bw
  have hblk : W'.heap[h]? = W.heap[h]? := hg.block h x.hh.2 (by have := x.hh; simp; omega)
  have key : ∀ o : Nat, W'.cell? ⟨h, o, none⟩ = W.cell? ⟨h, o, none⟩ := fun o => World.cell?_of_block hblk
  have kf : ∀ j : Nat, W'.frozen? ⟨h, j, none⟩ = W.frozen? ⟨h, j, none⟩ := fun j => World.frozen?_of_block hblk
  exact ⟨x.gs.next hg hr, (key _).trans x.c0, (key _).trans x.c1, (key _).trans x.c2, (key _).trans x.c3, (key _).trans x.c4, fun j => (kf j).trans (x.fz j), ⟨x.hh.1, Nat.lt_of_lt_of_le x.hh.2 hg.size⟩, x.pe.next (Ag.grown hg (by omega)), x.pt.next (Ag.grown hg (by omega)), x.bd⟩
theorem Rs.alloc {w W : World} {b q h d : Nat} {k n : Int} {m : ByteArray} {kv tv : Value} {ks : List Ex} {ts : List (Int × Int)} (x : Rs w W b q h d k n m kv tv ks ts) (o : Obj) : Rs w (W.alloc o) b q h d k n m kv tv ks ts :=
  x.next (World.grownBy_alloc W _ _) (x.gs.alloc o).rd
theorem Rs.pick {w W : World} {b q h d : Nat} {k n : Int} {m : ByteArray} {kv tv : Value} {ks : List Ex} {ts : List (Int × Int)} (x : Rs w W b q h d k n m kv tv ks ts) (hq : q ≤ 1000000000) (N : Int) :
    Calls Tryz.prog 20 #[.pointer (some ⟨b, 0, none⟩), .int .i64 N] W fun e W' => ∃ r, e = .returned (.int .i64 r) ∧ 0 ≤ r ∧ (r < N ∨ r = 0) ∧ Rs w W' b (q + 1) h d k n m kv tv ks ts ∧ W.grownBy W' (some b) := by
  refine (Draw.pick N b q W x.gs.rd hq).mono ?_
  rintro e W1 ⟨r, rfl, r0, r1, hR1, hg1⟩
  exact ⟨r, rfl, r0, r1, x.next hg1 hR1, hg1⟩

theorem grown_drew1 (W : World) (r : Option Nat) : W.grownBy W.drew r := ⟨rfl, rfl, rfl, Nat.le_refl _, fun _ _ _ => rfl⟩
theorem Rs.drew {w W : World} {b q h d : Nat} {k n : Int} {m : ByteArray} {kv tv : Value} {ks : List Ex} {ts : List (Int × Int)} (x : Rs w W b q h d k n m kv tv ks ts) : Rs w W.drew b q h d k n m kv tv ks ts :=
  x.next (grown_drew1 W _) (x.gs.rd.kept (grown_drew1 W none) (by simp))
/-- the kept ones of new expressions -/
theorem PE.old {w W2 W3 : World} {lo h d : Nat} {kv : Value} {ks : List Ex} (hlo : w.heap.size + 1 ≤ lo) (hk : ES lo W2.heap.size W2 d kv ks) (hh : h = W2.heap.size) (ha : Ag w W2 W3 h) : PE w W3 h d kv ks := by
  subst hh
  intro W' hW
  have hA := ha.trans hW
  exact (hk.kept (fun j h1 h2 => hA.2 j (by omega) (by omega) h2)).mono hlo hA.1
theorem PT.old {w W2 W3 : World} {B h : Nat} {tv : Value} {ts : List (Int × Int)} (hB : w.heap.size + 1 ≤ B) (ht : TL B W2.heap.size W2 tv ts) (hh : h = W2.heap.size) (ha : Ag w W2 W3 h) : PT w W3 h tv ts := by
  subst hh
  intro W' hW
  have hA := ha.trans hW
  exact (ht.kept (fun j h1 h2 => hA.2 j (by omega) (by omega) h2)).mono hB hA.1

/-- what is handed out -/
def RuOut (w w' : World) (b p : Nat) (v : Value) : Prop := ∃ (e : Ex) (d q : Nat), EV w.heap.size w'.heap.size w' d v e ∧ (wt e ≤ 100000 ∧ noE oth e) ∧ Rd w' b q ∧ p ≤ q ∧ q ≤ p + 2000 ∧ w.grownBy w' (some b)
theorem Rs.out {w W : World} {b p q h d : Nat} {k n : Int} {m : ByteArray} {kv tv : Value} {ks : List Ex} {ts : List (Int × Int)} (x : Rs w W b q h d k n m kv tv ks ts) (h0 : p ≤ q) (h1 : q ≤ p + 2000) :
    RuOut w (put5 W w.heap.size (.int .i64 k) (.int .i64 n) (.string m) kv tv) b p (.agg #[.int .i64 k, .int .i64 n, .string m, kv, tv]) := by
  have hg := put5_grown W w.heap.size (.int .i64 k) (.int .i64 n) (.string m) kv tv
  have hb := x.gs.bw
  have hs := x.gs.size
  have hw' := x.gs.gr
  obtain ⟨b1, b2, b3⟩ := x.bd
  have ha : Ag w W (put5 W w.heap.size (.int .i64 k) (.int .i64 n) (.string m) kv tv) h := Ag.grown hg (Nat.le_refl _)
  refine ⟨.mk k n m ks ts, d, q, ⟨kv, tv, rfl, ⟨by show m.size ≤ maxLen; unfold maxLen; omega, by show ts.length ≤ maxLen; unfold maxLen; omega⟩, (x.pe _ ha).mono (by omega) (Nat.le_refl _), (x.pt _ ha).mono (by omega) (Nat.le_refl _)⟩, ?_, x.gs.rd.kept hg (fun j hj => by cases hj; omega), h0, h1, ?_⟩
  · exact ⟨by rw [Rule.wt_eq]; show m.size + wtL ks + ts.length ≤ _; omega, b3.2⟩
  · exact ⟨hg.os.trans hw'.os, hg.tape.trans hw'.tape, hg.output.trans hw'.output, Nat.le_trans hw'.size hg.size, fun j hj hne => (hg.block j (by omega) (by simp; omega)).trans (hw'.block j hj hne)⟩

/-- a cell of the box is written -/
theorem Gs.set {w W : World} {b q h : Nat} (x : Gs w W b q) (hh : w.heap.size < h) (o : Nat) (u : Value) : Gs w (W.setCell ⟨h, o, none⟩ u) b q := by
  have hg := gset W h o u
  have hb := x.bw
  have hw' := x.gr
  refine ⟨x.rd.kept hg (fun j hj => by cases hj; omega), ?_, hb, x.box.grown hg (by simp; omega)⟩
  exact ⟨hg.os.trans hw'.os, hg.tape.trans hw'.tape, hg.output.trans hw'.output, Nat.le_trans hw'.size hg.size, fun j hj hne => (hg.block j (Nat.lt_of_lt_of_le hj hw'.size) (by simp; omega)).trans (hw'.block j hj hne)⟩
theorem cell_o {W : World} {h i j : Nat} {u v : Value} (hij : i ≠ j) (hc : W.cell? ⟨h, j, none⟩ = some v) : (W.setCell ⟨h, i, none⟩ u).cell? ⟨h, j, none⟩ = some v :=
  (World.cell?_setCell_other _ _ _ _ (fun e => hij (by simp only [Addr.mk.injEq, and_true, true_and] at e; exact e))).trans hc
theorem Rs.setK {w W : World} {b q h d : Nat} {k n : Int} {m : ByteArray} {kv tv : Value} {ks : List Ex} {ts : List (Int × Int)} (x : Rs w W b q h d k n m kv tv ks ts) (k' : Int) : Rs w (W.setCell ⟨h, 0, none⟩ (.int .i64 k')) b q h d k' n m kv tv ks ts :=
  ⟨x.gs.set x.hh.1 _ _, World.cell?_setCell_same _ _ _ x.c0, cell_o (by omega) x.c1, cell_o (by omega) x.c2, cell_o (by omega) x.c3, cell_o (by omega) x.c4, fun j => by simpa [World.frozen?_setCell] using x.fz j, ⟨x.hh.1, by simpa using x.hh.2⟩, x.pe.next (Ag.box (gset _ _ _ _)), x.pt.next (Ag.box (gset _ _ _ _)), x.bd⟩
theorem Rs.setN {w W : World} {b q h d : Nat} {k n : Int} {m : ByteArray} {kv tv : Value} {ks : List Ex} {ts : List (Int × Int)} (x : Rs w W b q h d k n m kv tv ks ts) (n' : Int) : Rs w (W.setCell ⟨h, 1, none⟩ (.int .i64 n')) b q h d k n' m kv tv ks ts :=
  ⟨x.gs.set x.hh.1 _ _, cell_o (by omega) x.c0, World.cell?_setCell_same _ _ _ x.c1, cell_o (by omega) x.c2, cell_o (by omega) x.c3, cell_o (by omega) x.c4, fun j => by simpa [World.frozen?_setCell] using x.fz j, ⟨x.hh.1, by simpa using x.hh.2⟩, x.pe.next (Ag.box (gset _ _ _ _)), x.pt.next (Ag.box (gset _ _ _ _)), x.bd⟩
theorem Rs.setM {w W : World} {b q h d : Nat} {k n : Int} {m : ByteArray} {kv tv : Value} {ks : List Ex} {ts : List (Int × Int)} (x : Rs w W b q h d k n m kv tv ks ts) (m' : ByteArray) (hm : m'.size ≤ 20 ∧ m' ≠ oth) : Rs w (W.setCell ⟨h, 2, none⟩ (.string m')) b q h d k n m' kv tv ks ts :=
  ⟨x.gs.set x.hh.1 _ _, cell_o (by omega) x.c0, cell_o (by omega) x.c1, World.cell?_setCell_same _ _ _ x.c2, cell_o (by omega) x.c3, cell_o (by omega) x.c4, fun j => by simpa [World.frozen?_setCell] using x.fz j, ⟨x.hh.1, by simpa using x.hh.2⟩, x.pe.next (Ag.box (gset _ _ _ _)), x.pt.next (Ag.box (gset _ _ _ _)), ⟨hm.1, x.bd.2.1, x.bd.2.2.1, hm.2, x.bd.2.2.2.2⟩⟩
theorem Rs.setKids {w W : World} {b q h d d' : Nat} {k n : Int} {m : ByteArray} {kv tv kv' : Value} {ks ks' : List Ex} {ts : List (Int × Int)} (x : Rs w W b q h d k n m kv tv ks ts) (hk : PE w W h d' kv' ks') (hw : wtL ks' ≤ 90000 ∧ noL oth ks') : Rs w (W.setCell ⟨h, 3, none⟩ kv') b q h d' k n m kv' tv ks' ts :=
  ⟨x.gs.set x.hh.1 _ _, cell_o (by omega) x.c0, cell_o (by omega) x.c1, cell_o (by omega) x.c2, World.cell?_setCell_same _ _ _ x.c3, cell_o (by omega) x.c4, fun j => by simpa [World.frozen?_setCell] using x.fz j, ⟨x.hh.1, by simpa using x.hh.2⟩, hk.next (Ag.box (gset _ _ _ _)), x.pt.next (Ag.box (gset _ _ _ _)), ⟨x.bd.1, x.bd.2.1, hw.1, x.bd.2.2.2.1, hw.2⟩⟩
theorem Rs.setTiers {w W : World} {b q h d : Nat} {k n : Int} {m : ByteArray} {kv tv tv' : Value} {ks : List Ex} {ts ts' : List (Int × Int)} (x : Rs w W b q h d k n m kv tv ks ts) (ht : PT w W h tv' ts') (hw : ts'.length ≤ 5) : Rs w (W.setCell ⟨h, 4, none⟩ tv') b q h d k n m kv tv' ks ts' :=
  ⟨x.gs.set x.hh.1 _ _, cell_o (by omega) x.c0, cell_o (by omega) x.c1, cell_o (by omega) x.c2, cell_o (by omega) x.c3, World.cell?_setCell_same _ _ _ x.c4, fun j => by simpa [World.frozen?_setCell] using x.fz j, ⟨x.hh.1, by simpa using x.hh.2⟩, x.pe.next (Ag.box (gset _ _ _ _)), ht.next (Ag.box (gset _ _ _ _)), ⟨x.bd.1, hw, x.bd.2.2⟩⟩

/-- all of it becomes its own kid -/
theorem PE.wrap {w W : World} {b q h d : Nat} {k n : Int} {m : ByteArray} {kv tv : Value} {ks : List Ex} {ts : List (Int × Int)} (x : Rs w W b q h d k n m kv tv ks ts) (t : TypeId) : PE w (W.alloc (.cells #[.int .i64 k, .int .i64 n, .string m, kv, tv] t)) h (d + 1) (.slice (some ⟨W.heap.size, 0, none⟩) 1 1) [.mk k n m ks ts] := by
  intro W' hW
  have hA := (Ag.none (w := w) (h := h) (World.grownBy_alloc W (.cells #[.int .i64 k, .int .i64 n, .string m, kv, tv] t) none)).trans hW
  have hs := x.gs.size
  have hblk : W'.heap[W.heap.size]? = (W.alloc (.cells #[.int .i64 k, .int .i64 n, .string m, kv, tv] t)).heap[W.heap.size]? := hW.2 _ (by omega) (by have := x.hh.2; omega) (by simp)
  have key : ∀ o : Nat, W'.cell? ⟨W.heap.size, o, none⟩ = (#[Value.int .i64 k, .int .i64 n, .string m, kv, tv])[o]? := fun o => (World.cell?_of_block hblk).trans (cell_new _ _ _ _)
  refine .inr ⟨W.heap.size, 0, 1, rfl, by show 1 ≤ maxLen; unfold maxLen; omega, by omega, by have := hW.1; simp at this; omega, fun i hi => ?_⟩
  obtain rfl : i = 0 := by simpa using hi
  obtain ⟨b1, b2, _⟩ := x.bd
  refine ⟨kv, tv, ⟨key _, key _, key _, key _, key _⟩, ⟨?_, ?_⟩, x.pe _ hA, x.pt _ hA⟩
  · show m.size ≤ maxLen; unfold maxLen; omega
  · show ts.length ≤ maxLen; unfold maxLen; omega
theorem Rs.allSet {w W : World} {b q h d d' : Nat} {k n k' : Int} {m : ByteArray} {kv tv kv' : Value} {ks ks' : List Ex} {ts : List (Int × Int)} (x : Rs w W b q h d k n m kv tv ks ts) (hk : PE w W h d' kv' ks') (hw : wtL ks' ≤ 90000 ∧ noL oth ks') : Rs w (put5 W h (.int .i64 k') (.int .i64 0) (.string ⟨#[]⟩) kv' (.slice none 0 0)) b q h d' k' 0 ⟨#[]⟩ kv' (.slice none 0 0) ks' [] := by
  have hpt : ∀ W, PT w W h (.slice none 0 0) [] := fun W W' _ => .inl ⟨rfl, _, _, rfl⟩
  have y := (((x.setK k').setN 0).setM ⟨#[]⟩ ⟨by decide, Rule.nil_oth⟩).setKids (hk.next (Ag.box (grown_trans (grown_trans (gset _ _ _ _) (gset _ _ _ _)) (gset _ _ _ _)))) hw
  exact y.setTiers (hpt _) (by simp)
theorem put5_past (W : World) (o : Obj) (h : Nat) (hh : h < W.heap.size) (a b c d e : Value) : put5 (W.alloc o) h a b c d e = (put5 W h a b c d e).alloc o := by
  unfold put5
  rw [World.setCell_alloc_past _ _ _ _ hh, World.setCell_alloc_past _ _ _ _ (by simpa using hh), World.setCell_alloc_past _ _ _ _ (by simpa using hh), World.setCell_alloc_past _ _ _ _ (by simpa using hh), World.setCell_alloc_past _ _ _ _ (by simpa using hh)]
theorem Rs.wrapA {w W : World} {b q h d : Nat} {k n : Int} {m : ByteArray} {kv tv : Value} {ks : List Ex} {ts : List (Int × Int)} (x : Rs w W b q h d k n m kv tv ks ts) (t : TypeId) (hw : wtL [Ex.mk k n m ks ts] ≤ 90000) :
    Rs w ((put5 W h (.int .i64 6) (.int .i64 0) (.string ⟨#[]⟩) (.slice (some ⟨W.heap.size, 0, none⟩) 1 1) (.slice none 0 0)).alloc (.cells #[.int .i64 k, .int .i64 n, .string m, kv, tv] t)) b q h (d + 1) 6 0 ⟨#[]⟩ (.slice (some ⟨W.heap.size, 0, none⟩) 1 1) (.slice none 0 0) [.mk k n m ks ts] [] := by
  rw [← put5_past W _ h x.hh.2]
  exact (x.alloc _).allSet (PE.wrap x t) ⟨hw, Rule.noL1 x.bd.2.2.2⟩
end Go.Proofs.YtogkkkollmcijaaGreatDoor.Draw
end

section
/-
  A kid more: 'append(e.Kids, ..)' where the row has no room.
-/
namespace Go.Proofs.YtogkkkollmcijaaGreatDoor.Draw
set_option linter.unusedVariables false
open Go.RowKit
open Rule (Ex EV ES TL Same wt wtL oth noE noL)

theorem ES.deeper {lo hi : Nat} {W : World} : ∀ {d : Nat} {v : Value} {l : List Ex}, ES lo hi W d v l → ES lo hi W (d + 1) v l := by
  intro d
  induction d with
  | zero => intro v l h; exact .inl h
  | succ d ih =>
    intro v l h
    rcases h with h | ⟨b, o, cap, rfl, hl, h1, h2, hc⟩
    · exact .inl h
    · refine .inr ⟨b, o, cap, rfl, hl, h1, h2, fun i hi => ?_⟩
      obtain ⟨kv, tv, hcs, hz, hk, ht⟩ := hc i hi
      exact ⟨kv, tv, hcs, hz, ih hk, ht⟩
/-- the kid that is added -/
abbrev leaf : Ex := .mk 1 0 ⟨#[]⟩ [] []
abbrev leafV : List Value := [.int .i64 1, .int .i64 0, .string ⟨#[]⟩, .slice none 0 0, .slice none 0 0]
theorem infoX : (Tryz.prog.info? 26).map (fun i => (i.zero, i.size, i.bytes)) = some (some (.agg #[.int .i64 0, .int .i64 0, .string ByteArray.empty, .slice none 0 0, .slice none 0 0]), 5, 80) := by kernel_rfl

theorem PE.app {w W2 w' : World} {lo h d n g' cap' : Nat} {a : Option Addr} {c : Nat} {ks : List Ex} (hlo : w.heap.size + 1 ≤ lo) (hk : ES lo W2.heap.size W2 d (.slice a n c) ks) (hh : h = W2.heap.size) (ha : Ag w W2 w' h)
    (hg : w.heap.size + 1 ≤ g' ∧ g' ≠ h ∧ g' < w'.heap.size) (hn : ks.length = n) (hn' : n ≤ 2000) (hold : ∀ g, a = some ⟨g, 0, none⟩ → ∀ j, j < n * 5 → w'.cell? ⟨g', j, none⟩ = w'.cell? ⟨g, j, none⟩) (ho : n ≠ 0 → ∃ g, a = some ⟨g, 0, none⟩)
    (hnew : ∀ j u, leafV[j]? = some u → w'.cell? ⟨g', n * 5 + j, none⟩ = some u) : PE w w' h (d + 1) (.slice (some ⟨g', 0, none⟩) (n + 1) cap') (ks ++ [leaf]) := by
  subst hh
  intro W' hW
  have hA := ha.trans hW
  have hES : ES lo W'.heap.size W' d (.slice a n c) ks := (hk.kept (fun j h1 h2 => hA.2 j (by omega) (by omega) h2)).mono (Nat.le_refl _) hA.1
  have hblk : W'.heap[g']? = w'.heap[g']? := hW.2 g' hg.1 hg.2.1 hg.2.2
  have key : ∀ o : Nat, W'.cell? ⟨g', o, none⟩ = w'.cell? ⟨g', o, none⟩ := fun o => World.cell?_of_block hblk
  refine .inr ⟨g', 0, cap', by simp [hn], by simp; unfold maxLen; omega, hg.1, Nat.lt_of_lt_of_le hg.2.2 hW.1, fun i hi => ?_⟩
  by_cases hin : i < n
  · obtain ⟨g, rfl⟩ := ho (by omega)
    have hgd : (ks ++ [leaf]).getD i Rule.E0 = ks.getD i Rule.E0 := by simp [List.getD, List.getElem?_append_left (by omega : i < ks.length)]
    rw [hgd]
    cases d with
    | zero => obtain ⟨rfl, _⟩ := hES; simp at hn; omega
    | succ d =>
      rcases hk with ⟨rfl, _⟩ | ⟨b0, o0, cap0, hv0, _, hb0, hb1, _⟩
      · simp at hn; omega
      rcases hES with ⟨rfl, _⟩ | ⟨b, o, cap, hv, hl, h1, h2, hc⟩
      · simp at hn; omega
      · simp only [Value.slice.injEq, Option.some.injEq, Addr.mk.injEq, and_true] at hv hv0
        obtain ⟨⟨rfl, rfl⟩, rfl, rfl⟩ := hv
        obtain ⟨⟨rfl, _⟩, _, _⟩ := hv0
        have hbg : W'.heap[g]? = w'.heap[g]? := hW.2 g (by omega) (by omega) (Nat.lt_of_lt_of_le hb1 ha.1)
        have keyg : ∀ o : Nat, W'.cell? ⟨g, o, none⟩ = w'.cell? ⟨g, o, none⟩ := fun o => World.cell?_of_block hbg
        have both : ∀ j, j < ks.length * 5 → W'.cell? ⟨g', 0 + j, none⟩ = W'.cell? ⟨g, 0 + j, none⟩ := fun j hj => by rw [Nat.zero_add, key, hold g rfl j hj, keyg]
        obtain ⟨kv, tv, ⟨c0, c1, c2, c3, c4⟩, hz, hs, ht⟩ := hc i (by omega)
        have b0 := both (i * 5) (by omega)
        have b1 := both (i * 5 + 1) (by omega)
        have b2 := both (i * 5 + 2) (by omega)
        have b3 := both (i * 5 + 3) (by omega)
        have b4 := both (i * 5 + 4) (by omega)
        simp only [← Nat.add_assoc] at b1 b2 b3 b4
        exact ⟨kv, tv, ⟨b0.trans c0, b1.trans c1, b2.trans c2, b3.trans c3, b4.trans c4⟩, hz, (ES.deeper hs).mono hlo (Nat.le_refl _), ht.mono hlo (Nat.le_refl _)⟩
  · have hi' : i = n := by simp at hi; omega
    subst hi'
    have hgd : (ks ++ [leaf]).getD i Rule.E0 = leaf := by simp [List.getD, ← hn]
    rw [hgd]
    refine ⟨.slice none 0 0, .slice none 0 0, ?_, ⟨by decide, by decide⟩, ES.nought _ _ _ _ _ _, TL.nought _ _ _ _ _⟩
    simp only [Nat.zero_add, key]
    exact ⟨hnew 0 _ rfl, hnew 1 _ rfl, hnew 2 _ rfl, hnew 3 _ rfl, hnew 4 _ rfl⟩

theorem cells_some {lo hi : Nat} {W : World} {d g n c : Nat} {ks : List Ex} (h : ES lo hi W d (.slice (some ⟨g, 0, none⟩) n c) ks) (hn : ks.length = n) : ∀ j, j < n * 5 → ∃ u, W.cell? ⟨g, j, none⟩ = some u := by
  intro j hj
  cases d with
  | zero => obtain ⟨rfl, _⟩ := h; simp at hn; omega
  | succ d =>
    rcases h with ⟨rfl, _⟩ | ⟨b, o, cap, hv, _, _, _, hc⟩
    · simp at hn; omega
    · simp only [Value.slice.injEq, Option.some.injEq, Addr.mk.injEq, and_true] at hv
      obtain ⟨⟨rfl, rfl⟩, rfl, rfl⟩ := hv
      obtain ⟨kv, tv, ⟨c0, c1, c2, c3, c4⟩, _⟩ := hc (j / 5) (by omega)
      simp only [Nat.zero_add] at c0 c1 c2 c3 c4
      rcases (by omega : j % 5 = 0 ∨ j % 5 = 1 ∨ j % 5 = 2 ∨ j % 5 = 3 ∨ j % 5 = 4) with e | e | e | e | e
      · have ej : j / 5 * 5 = j := by omega
        rw [ej] at c0
        exact ⟨_, c0⟩
      · have ej : j / 5 * 5 + 1 = j := by omega
        rw [ej] at c1
        exact ⟨_, c1⟩
      · have ej : j / 5 * 5 + 2 = j := by omega
        rw [ej] at c2
        exact ⟨_, c2⟩
      · have ej : j / 5 * 5 + 3 = j := by omega
        rw [ej] at c3
        exact ⟨_, c3⟩
      · have ej : j / 5 * 5 + 4 = j := by omega
        rw [ej] at c4
        exact ⟨_, c4⟩

/-- the append itself -/
theorem run_appK (W : World) (ty : TypeId) (a : Option Addr) (n c : Nat) (hn : n ≤ 2000) (hkf : KF (.slice a n c)) (hc : ∀ g, a = some ⟨g, 0, none⟩ → ∀ j, j < n * 5 → ∃ u, W.cell? ⟨g, j, none⟩ = some u) :
    ∃ g' cap' w', (Builtin.append_ #[23, 23] ty #[.slice a n c, .slice (some ⟨W.heap.size, 0, none⟩) 1 1]).run Tryz.prog (W.alloc (.cells leafV.toArray 26)) = .ok (.slice (some ⟨g', 0, none⟩) (n + 1) cap') w' ∧
      (W.alloc (.cells leafV.toArray 26)).grownBy w' none ∧ W.heap.size < g' ∧ g' < w'.heap.size ∧ (∀ g, a = some ⟨g, 0, none⟩ → ∀ j, j < n * 5 → w'.cell? ⟨g', j, none⟩ = W.cell? ⟨g, j, none⟩) ∧ (∀ j u, leafV[j]? = some u → w'.cell? ⟨g', n * 5 + j, none⟩ = some u) := by
  obtain ⟨i, hi, h2⟩ := Option.map_eq_some_iff.1 infoX
  simp only [Prod.mk.injEq] at h2
  obtain ⟨hz, hs, hb⟩ := h2
  have hnews : ∀ j u, leafV[j]? = some u → (W.alloc (.cells leafV.toArray 26)).cell? ((⟨W.heap.size, 0, none⟩ : Addr).add j) = some u := fun j u hj => by
    rw [Addr.add_lit, Nat.zero_add, cell_new]; simpa using hj
  rcases hkf with h | ⟨g, nn, h⟩
  · simp only [Value.slice.injEq] at h
    obtain ⟨rfl, rfl, rfl⟩ := h
    obtain ⟨g', cap', w', hr, ho, hg, hat, hlt⟩ := run_append_lies (P := Tryz.prog) (W.alloc (.cells leafV.toArray 26)) 23 ty 0 26 i _ 5 80 Tryz.underlying23 hi hz hs hb rfl (by omega) (.slice none 0 0) 0 [] ⟨rfl, .inl ⟨rfl, rfl⟩⟩ ⟨W.heap.size, 0, none⟩ 1 1 leafV rfl hnews (by simp [Value.oneCell']) (by omega) (by unfold maxLen; omega) (by omega) (Nat.zero_le _) _ rfl
    refine ⟨g', cap', w', hr, hg, ?_, hlt, fun g hg => by simp at hg, fun j u hj => ?_⟩
    · rcases hat with h | h
      · simp [Value.ownBlock] at h
      · simp at h; omega
    · have := ho.cells (g := g') rfl j u (by simpa using hj)
      rw [Addr.add_lit, Nat.zero_add] at this
      rw [Nat.zero_mul, Nat.zero_add]
      exact this
  · simp only [Value.slice.injEq] at h
    obtain ⟨rfl, hnn, hcc⟩ := h
    have hnc : n = c := hnn.trans hcc.symm
    subst hnc
    clear hnn hcc
    have hW : ∀ j, j < n * 5 → (W.alloc (.cells leafV.toArray 26)).cell? ⟨g, j, none⟩ = W.cell? ⟨g, j, none⟩ := fun j hj => by
      obtain ⟨u, hu⟩ := hc g rfl j hj
      rw [hu]
      exact cell_alloc _ hu (Rule.lt_of_cell hu)
    have hlo : ((List.range (n * 5)).map fun j => (W.cell? ⟨g, j, none⟩).getD undef).length = n * 5 := by simp
    obtain ⟨v', w', hr, ho, hg⟩ := run_append_arg_grows (P := Tryz.prog) (W.alloc (.cells leafV.toArray 26)) 23 ty 26 i _ 5 80 Tryz.underlying23 hi hz hs hb rfl (by omega) ⟨g, 0, none⟩ n n ((List.range (n * 5)).map fun j => (W.cell? ⟨g, j, none⟩).getD undef) hlo (fun j u hj => by
      have hjl : j < n * 5 := by have := (List.getElem?_eq_some_iff.1 hj).1; simpa using this
      rw [Addr.add_lit, Nat.zero_add, hW j hjl]
      obtain ⟨u', hu'⟩ := hc g rfl j hjl
      simp [hjl, hu'] at hj
      rw [hu', hj]) ⟨W.heap.size, 0, none⟩ 1 1 leafV rfl hnews (by omega) (by unfold maxLen; omega) (by omega)
    rcases ho.2 with ⟨_, h0⟩ | ⟨g', cap', cur, rfl, hb', hcur, _⟩
    · omega
    refine ⟨g', cap', w', hr, hg, by simp at hb'; omega, (ho.lt g' rfl).2, fun g2 hg2 j hj => ?_, fun j u hj => ?_⟩
    · simp only [Option.some.injEq, Addr.mk.injEq, and_true] at hg2
      subst hg2
      obtain ⟨u', hu'⟩ := hc g rfl j hj
      have := ho.cells (g := g') rfl j u' (by rw [List.getElem?_append_left (by rw [hlo]; exact hj)]; simp [hj, hu'])
      rw [Addr.add_lit, Nat.zero_add] at this
      rw [this, hu']
    · have := ho.cells (g := g') rfl (n * 5 + j) u (by rw [List.getElem?_append_right (by rw [hlo]; omega), hlo]; simpa using hj)
      rw [Addr.add_lit, Nat.zero_add] at this
      exact this
theorem wtL_app (a b : List Ex) : wtL (a ++ b) = wtL a + wtL b := by
  rw [Rule.wtL_eq, Rule.wtL_eq, Rule.wtL_eq, Rule.wtS_append, List.length_append]; omega
theorem wtL_len (l : List Ex) : l.length ≤ wtL l := by rw [Rule.wtL_eq]; omega
theorem wtL_leaf : wtL [leaf] = 1 := by simp [wtL, wt, ByteArray.size]
theorem KF.some {a : Option Addr} {n c : Nat} (h : KF (.slice a n c)) (hn : n ≠ 0) : ∃ g, a = some ⟨g, 0, none⟩ := by
  rcases h with h | ⟨g, k, h⟩
  · simp only [Value.slice.injEq] at h; omega
  · simp only [Value.slice.injEq] at h; exact ⟨g, h.1⟩
/-- an append whose run is known -/
theorem wpList_run {w w' : World} {ops : Array Oper} {rest : List Oper} {o : Oper} {a : Act} {Q : Exit → Act → World → Prop} (hgd : o.guard = none) (s x : Operand) (t : TypeId)
    (ho : o.op = .call { callee := .builtin .append, args := #[s, x], argTypes := #[t, t] }) (sv xv v : Value) (hs : a.eval s = sv) (hx : a.eval x = xv) (hr : (Builtin.append_ #[t, t] o.type #[sv, xv]).run Tryz.prog w = .ok v w')
    (h : wpList Tryz.prog ops Q rest (a.put o.dst v) w') : wpList Tryz.prog ops Q (o :: rest) a w := by
  refine wpList_plain hgd fun K' hK' => ?_
  unfold Oper.wp execOp
  simp [ho, resolve, invoke, builtin, hs, hx, hr, Result.andThen]
  exact hK' _ _ h
end Go.Proofs.YtogkkkollmcijaaGreatDoor.Draw
end

section
/-
  A step more: 'append(e.Tiers, ..)' on a row of the call's own.
-/
namespace Go.Proofs.YtogkkkollmcijaaGreatDoor.Draw
set_option linter.unusedVariables false
open Go.RowKit
open Rule (Ex EV ES TL Same wt wtL oth noE noL)

/-- the row of steps -/
def TRow (W : World) (B : Nat) (tv : Value) (ts : List (Int × Int)) : Prop := W.ownsRow B 45 2 tv ts.length (App2.flat fT gT ts)
theorem TF.row {W : World} {B lo : Nat} {tv : Value} {ts : List (Int × Int)} (h : TF W B lo tv ts) : TRow W B tv ts ∧ ∀ g, tv.ownBlock = some g → g < lo := by
  rcases h with ⟨rfl, rfl⟩ | ⟨g, c, rfl, ho, hl⟩
  · exact ⟨⟨rfl, .inl ⟨rfl, rfl⟩⟩, fun g hg => by simp [Value.ownBlock] at hg⟩
  · exact ⟨ho, fun g' hg => by simp [Value.ownBlock] at hg; omega⟩
theorem TRow.kept {W W' : World} {B : Nat} {tv : Value} {ts : List (Int × Int)} {r : Option Nat} (h : TRow W B tv ts) (hg : W.grownBy W' r) (hne : ∀ k, r = some k → k < B) : TRow W' B tv ts := by
  refine World.ownsRow.kept h hg ?_
  cases ho : tv.ownBlock with
  | none => exact .inl rfl
  | some g =>
    right
    intro e
    have := (World.ownsRow.lt h g ho).1
    have := hne g e.symm
    omega

section
variable {ops : Array Oper} {o : Oper} {a : Act} {K : Act → World → Prop} {Q : Exit → Act → World → Prop} {P0 : Prop}
theorem stepAppT (w : World) (hgd : o.guard = none) (s x : Operand) (ho : o.op = .call { callee := .builtin .append, args := #[s, x], argTypes := #[24, 24] })
    (B N : Nat) (z : Int) (tv : Value) (ts : List (Int × Int)) (hs : a.eval s = tv) (hxv : a.eval x = .slice (some ⟨N, 0, none⟩) 1 1) (hrow : TRow w B tv ts) (hc0 : w.cell? ⟨N, 0, none⟩ = some (.int .i64 z)) (hc1 : w.cell? ⟨N, 1, none⟩ = some (.int .i64 0)) (hl : ts.length ≤ 2000) (hB : B ≤ w.heap.size)
    (h : ∀ g' c' w', OwnT w' B g' c' (ts ++ [(z, 0)]) → w.grownBy w' tv.ownBlock → (tv.ownBlock = some g' ∨ g' = w.heap.size) → g' < w'.heap.size → K (a.put o.dst (.slice (some ⟨g', 0, none⟩) (ts.length + 1) c')) w') :
    if Region.wanted o (yielded ops a.tmps) = true then Oper.wp Tryz.prog o a w K Q else P0 := by
  have hw : Region.wanted o (yielded ops a.tmps) = true := by simp [Region.wanted, hgd]
  rw [if_pos hw]
  obtain ⟨i, hi, h2⟩ := Option.map_eq_some_iff.1 Tiers.infoT
  simp only [Prod.mk.injEq] at h2
  obtain ⟨hz, hsz, hb⟩ := h2
  have hnews : ∀ j u, ([.int .i64 z, .int .i64 0] : List Value)[j]? = some u → w.cell? ((⟨N, 0, none⟩ : Addr).add j) = some u := fun j u hj => by
    rw [Addr.add_lit, Nat.zero_add]
    match j, hj with
    | 0, hj => simp at hj; rw [hc0, hj]
    | 1, hj => simp at hj; rw [hc1, hj]
    | j + 2, hj => simp at hj
  obtain ⟨g', cap', w', hr, ho', hg, hat, hlt⟩ := run_append_lies (P := Tryz.prog) w 24 o.type B 45 i _ 2 16 Tryz.underlying24 hi hz hsz hb rfl (by omega) tv ts.length _ hrow ⟨N, 0, none⟩ 1 1 [.int .i64 z, .int .i64 0] rfl hnews (by simp [Value.oneCell']) (by omega) (by unfold maxLen; omega) (by omega) hB _ rfl
  have hO : OwnT w' B g' cap' (ts ++ [(z, 0)]) := by
    show w'.ownsRow B _ 2 _ _ _
    have e1 : App2.flat fT gT (ts ++ [(z, 0)]) = App2.flat fT gT ts ++ [.int .i64 z, .int .i64 0] := by simp [App2.flat]
    rw [e1, List.length_append]
    exact ho'
  unfold Oper.wp execOp
  simp [ho, resolve, invoke, builtin, hs, hxv, hr, Result.andThen]
  exact h g' cap' w' hO hg hat hlt
end

theorem Gs.row {w W W' : World} {b q : Nat} {r : Option Nat} (x : Gs w W b q) (hg : W.grownBy W' r) (hr : ∀ k, r = some k → w.heap.size < k) : Gs w W' b q := by
  have hb := x.bw
  have hw' := x.gr
  have hne : ∀ j, j ≤ w.heap.size → some j ≠ r := fun j hj e => by have := hr j e.symm; omega
  refine ⟨x.rd.kept hg (fun j hj => by have := hr j hj; omega), ?_, hb, x.box.grown hg (hne _ (Nat.le_refl _))⟩
  exact ⟨hg.os.trans hw'.os, hg.tape.trans hw'.tape, hg.output.trans hw'.output, Nat.le_trans hw'.size hg.size, fun j hj hn => (hg.block j (Nat.lt_of_lt_of_le hj hw'.size) (hne j (by omega))).trans (hw'.block j hj hn)⟩
/-- the row of steps has turned, nothing else -/
theorem Rs.row {w W2 W W' : World} {b q h d lo : Nat} {k n : Int} {m : ByteArray} {kv tv : Value} {ks : List Ex} {ts : List (Int × Int)} {r : Option Nat} (x : Rs w W b q h d k n m kv tv ks ts) (hg : W.grownBy W' r) (hr : ∀ j, r = some j → w.heap.size < j ∧ j < lo ∧ j < W2.heap.size) (hlo : w.heap.size + 1 ≤ lo)
    (hk : ES lo W2.heap.size W2 d kv ks) (hh : h = W2.heap.size) (ha : Ag w W2 W h) {g' c' : Nat} {ts' : List (Int × Int)} {B : Nat} (hB : w.heap.size + 1 ≤ B) (ho : OwnT W' B g' c' ts') (hgh : g' ≠ h) (hts : ts'.length ≤ 5) :
    Rs w (W'.setCell ⟨h, 4, none⟩ (.slice (some ⟨g', 0, none⟩) ts'.length c')) b q h d k n m kv (.slice (some ⟨g', 0, none⟩) ts'.length c') ks ts' ∧ ((W'.cell? ⟨h, 0, none⟩ = some (.int .i64 k) ∧ W'.cell? ⟨h, 1, none⟩ = some (.int .i64 n) ∧ W'.cell? ⟨h, 2, none⟩ = some (.string m) ∧ W'.cell? ⟨h, 3, none⟩ = some kv ∧ W'.cell? ⟨h, 4, none⟩ = some tv) ∧ (∀ j, W'.frozen? ⟨h, j, none⟩ = false) ∧ Bx W' w.heap.size) := by
  subst hh
  have hne : some W2.heap.size ≠ r := fun e => by have := hr _ e.symm; omega
  have hblk : W'.heap[W2.heap.size]? = W.heap[W2.heap.size]? := hg.block _ x.hh.2 hne
  have key : ∀ o : Nat, W'.cell? ⟨W2.heap.size, o, none⟩ = W.cell? ⟨W2.heap.size, o, none⟩ := fun o => World.cell?_of_block hblk
  have kf : ∀ j : Nat, W'.frozen? ⟨W2.heap.size, j, none⟩ = W.frozen? ⟨W2.heap.size, j, none⟩ := fun j => World.frozen?_of_block hblk
  have hpe : PE w W' W2.heap.size d kv ks := fun W'' hW => by
    refine (hk.kept (fun j h1 h2 => ?_)).mono hlo (Nat.le_trans ha.1 (Nat.le_trans hg.size hW.1))
    have hjW : j < W.heap.size := Nat.lt_of_lt_of_le h2 ha.1
    rw [hW.2 j (by omega) (by omega) (Nat.lt_of_lt_of_le hjW hg.size), hg.block j hjW (fun e => by have := hr _ e.symm; omega), ha.2 j (by omega) (by omega) h2]
  have hpt : PT w W' W2.heap.size (.slice (some ⟨g', 0, none⟩) ts'.length c') ts' := fun W'' hW => by
    have hlt := ho.lt
    have hb' : W''.heap[g']? = W'.heap[g']? := hW.2 g' (by omega) hgh hlt.2
    refine .inr ⟨g', 0, c', rfl, by omega, Nat.lt_of_lt_of_le hlt.2 hW.1, fun i hi => ?_⟩
    have := ho.cells i (ts'.getD i Tiers.T0) (by simp [List.getD, hi])
    rw [Nat.zero_add]
    exact ⟨(World.cell?_of_block (w := W') hb').trans this.1, (World.cell?_of_block (w := W') hb').trans this.2⟩
  refine ⟨⟨(x.gs.row hg (fun j hj => (hr j hj).1)).set x.hh.1 _ _, cell_o (by omega) ((key _).trans x.c0), cell_o (by omega) ((key _).trans x.c1), cell_o (by omega) ((key _).trans x.c2), cell_o (by omega) ((key _).trans x.c3), World.cell?_setCell_same _ _ _ ((key _).trans x.c4), fun j => by simpa [World.frozen?_setCell] using (kf j).trans (x.fz j), ⟨x.hh.1, by simpa using Nat.lt_of_lt_of_le x.hh.2 hg.size⟩, hpe.next (Ag.box (gset _ _ _ _)), hpt.next (Ag.box (gset _ _ _ _)), ⟨x.bd.1, hts, x.bd.2.2⟩⟩, ⟨(key _).trans x.c0, (key _).trans x.c1, (key _).trans x.c2, (key _).trans x.c3, (key _).trans x.c4⟩, fun j => (kf j).trans (x.fz j), (x.gs.row hg (fun j hj => (hr j hj).1)).box⟩
theorem Rs.box4 {w W w6 : World} {b q h d : Nat} {k n : Int} {m : ByteArray} {kv tv : Value} {ks : List Ex} {ts : List (Int × Int)} {r : Option Nat} {o : Obj} (x : Rs w W b q h d k n m kv tv ks ts) (hg : (W.alloc o).grownBy w6 r) (hne : some h ≠ r) : w6.cell? ⟨h, 4, none⟩ = some tv ∧ w6.frozen? ⟨h, 4, none⟩ = false := by
  have hb := hg.block h (by have := x.hh.2; simp; omega) hne
  have ha : (W.alloc o).heap[h]? = W.heap[h]? := Below.heap_alloc W o _ x.hh.2
  exact ⟨(World.cell?_of_block (w := W) (hb.trans ha)).trans x.c4, (World.frozen?_of_block (w := W) (hb.trans ha)).trans (x.fz 4)⟩
end Go.Proofs.YtogkkkollmcijaaGreatDoor.Draw
end

section
/-
  l2Rule: a drawn expression, bent now and then.
-/
namespace Go.Proofs.YtogkkkollmcijaaGreatDoor.Draw
set_option linter.unusedVariables false
open Go.RowKit
open Rule (Ex EV ES TL Same wt wtL oth noE noL)

theorem KF.form {kv : Value} (h : KF kv) : ∃ a n c, kv = .slice a n c := by
  rcases h with rfl | ⟨g, n, rfl⟩
  · exact ⟨_, _, _, rfl⟩
  · exact ⟨_, _, _, rfl⟩
theorem TF.form {W : World} {B lo : Nat} {tv : Value} {ts : List (Int × Int)} (h : TF W B lo tv ts) : ∃ a n c, tv = .slice a n c := by
  rcases h with ⟨rfl, _⟩ | ⟨g, c, rfl, _⟩
  · exact ⟨_, _, _, rfl⟩
  · exact ⟨_, _, _, rfl⟩
def isB (z : Int) : Prop := -1000000000 ≤ z ∧ z ≤ 1000000000
theorem j1 : ∀ z ∈ ([0, 11, 3, 9] : List Int), isB z := by
  intro z hz
  simp only [List.mem_cons, List.not_mem_nil, or_false] at hz
  unfold isB
  omega

theorem w3s : ∀ z ∈ ([⟨#[120]⟩, ⟨#[65]⟩, ⟨#[97, 100, 100]⟩] : List ByteArray), Rule.isEnd z := by
  intro z hz
  simp only [List.mem_cons, List.not_mem_nil, or_false] at hz
  rcases hz with rfl | rfl | rfl
  · exact Rule.isEnd_of 120 [] (by decide) (by decide)
  · exact Rule.isEnd_of 65 [] (by decide) (by decide)
  · exact Rule.isEnd_of 100 [97, 100] (by decide) (by decide)

set_option maxHeartbeats 16000000 in
set_option maxRecDepth 20000 in
theorem rule2 (b p : Nat) (w : World) (hR : Rd w b p) (hp : p ≤ 1000000) :
    Calls Tryz.prog 13 #[.pointer (some ⟨b, 0, none⟩)] w fun x w' => ∃ v, x = .returned v ∧ RuOut w w' b p v := by
  have G0 := Uses.hide (Gs.new w b p hR (.int .i64 0) (.int .i64 0) (.string ⟨#[]⟩) (.slice none 0 0) (.slice none 0 0) 26)
  clear hR
  go_enter Tryz.func13, Tryz.ntmps13
  go_wp2_with fail
  refine ((Uses.unhide G0).pick (by omega) 4).mono ?_
  rintro x W1 ⟨r, rfl, r0, r1, hG1⟩
  obtain ⟨d, rfl⟩ := Int.eq_ofNat_of_zero_le r0
  have hd : d ≤ 3 := by omega
  have hX : 4 ^ d ≤ 64 := Nat.pow_le_pow_right (n := 4) (by omega) hd
  have G1 := Uses.hide hG1
  clear G0 hG1 r0 r1
  have HX := Uses.hide hX
  clear hX
  go_wp2_with fail
  refine (gen d b _ _ (Uses.unhide G1).rd (by have := Uses.unhide HX; omega)).mono ?_
  rintro x W2 ⟨v, rfl, k, n, m, kv, tv, ks, ts, q2, lo, rfl, ⟨hlo, hES, hKF, hTF⟩, ⟨hw, hm, hts, ⟨hn0, hn1⟩, hno⟩, hR2, hq0, hq1, hg2⟩
  have hq : q2 ≤ p + 1 + 1280 := by have := Uses.unhide HX; omega
  have hwt : wtL ks ≤ 1280 := by have := Uses.unhide HX; omega
  have z1 := (Uses.unhide G1).size
  have z2 := hg2.size
  have G2 := Uses.hide ((Uses.unhide G1).next hg2 hR2)
  obtain ⟨ka, kn, kc, rfl⟩ := hKF.form
  obtain ⟨ta, tn, tc, rfl⟩ := hTF.form
  have HKF := Uses.hide hKF
  have HTF := Uses.hide hTF
  have HES := Uses.hide hES
  have S3 : Hid (Rs w (W2.alloc (.cells #[.int .i64 k, .int .i64 n, .string m, .slice ka kn kc, .slice ta tn tc] 26)) b q2 W2.heap.size d k n m (.slice ka kn kc) (.slice ta tn tc) ks ts) := Uses.hide (by
    have hag : Ag w W2 (W2.alloc (.cells #[.int .i64 k, .int .i64 n, .string m, .slice ka kn kc, .slice ta tn tc] 26)) W2.heap.size := Ag.none (World.grownBy_alloc W2 _ none)
    obtain ⟨n0, n1, n2, n3, n4⟩ := Rule.new5 W2 (.int .i64 k) (.int .i64 n) (.string m) (.slice ka kn kc) (.slice ta tn tc) 26
    obtain ⟨_, _, _, _, _, _, _, hf⟩ := Bx.new W2 (.int .i64 k) (.int .i64 n) (.string m) (.slice ka kn kc) (.slice ta tn tc) 26
    exact ⟨(Uses.unhide G2).alloc _, n0, n1, n2, n3, n4, hf, ⟨by omega, by simp⟩, PE.old (lo := lo) (by omega) hES rfl hag, PT.old (B := W1.heap.size) (by omega) hTF.tl rfl hag, ⟨by omega, by omega, by omega, hno⟩⟩)
  clear hES hKF hTF hR2 hg2 G1 HX hw hq1 hno
  go_wp2_with fail
  refine ((Uses.unhide S3).pick (by omega) 36).mono ?_
  rintro x W4 ⟨r, rfl, r0, _, hS4, hg4⟩
  have HAG : Hid (Ag w W2 W4 W2.heap.size) := Uses.hide ((Ag.none (World.grownBy_alloc W2 _ none)).trans (Ag.grown hg4 (Nat.le_of_lt hS4.gs.bw)))
  have HTR : Hid (TRow W4 W1.heap.size (.slice ta tn tc) ts ∧ (∀ g, (Value.slice ta tn tc).ownBlock = some g → g < lo ∧ w.heap.size < g ∧ g < W2.heap.size)) := Uses.hide (by
    obtain ⟨h1, h2⟩ := (Uses.unhide HTF).row
    exact ⟨(h1.kept (World.grownBy_alloc W2 _ none) (by simp)).kept hg4 (fun j hj => by cases hj; have := hS4.gs.bw; omega), fun g hg => ⟨h2 g hg, by have := (World.ownsRow.lt h1 g hg).1; omega, (World.ownsRow.lt h1 g hg).2⟩⟩)
  have hz24 : W2.heap.size < W4.heap.size := hS4.hh.2
  clear hg4
  have S4 := Uses.hide hS4
  have hne : w.heap.size ≠ W2.heap.size := by omega
  have hlt : w.heap.size < W2.heap.size := by omega
  clear hS4 S3
  by_cases e0 : r = 0
  · subst e0
    have S5 := Uses.hide ((Uses.unhide S4).setN (n + 1000000000 + 1))
    obtain ⟨_, v0, v1, v2, v3, v4, ⟨c0, c1, c2, c3, c4⟩, hf⟩ := (Uses.unhide S4).gs.box
    obtain ⟨_, d0, d1, d2, d3, d4, fz, _, _, _, _⟩ := Uses.unhide S4
    go_wp2
    obtain ⟨z0, z1, z2, z3, z4⟩ := put5_back (Uses.unhide S5).gs.box (.int .i64 k) (.int .i64 (n + 1000000000 + 1)) (.string m) (.slice ka kn kc) (.slice ta tn tc)
    exact bodyPost_ret (v := .agg #[.int .i64 k, .int .i64 (n + 1000000000 + 1), .string m, .slice ka kn kc, .slice ta tn tc]) (by simp [results, Tryz.results13, go_sem, z0, z1, z2, z3, z4]) rfl ⟨_, rfl, (Uses.unhide S5).out (by omega) (by omega)⟩
  by_cases e1 : r = 1
  · subst e1
    obtain ⟨ka', kc', hform, _⟩ := (Uses.unhide HES).form
    have hkl : ks.length = kn := by simp only [Value.slice.injEq] at hform; omega
    clear hform
    have hkn : kn ≤ 2000 := by have := wtL_len ks; omega
    have hES4 := (Uses.unhide S4).pe W4 (Ag.refl _ _ _)
    obtain ⟨g', cap', w', hr, hg, hg1, hg2, hold, hnew⟩ := run_appK W4 23 ka kn kc hkn (Uses.unhide HKF) (fun g hga => by subst hga; exact cells_some hES4 hkl)
    have S5 := Uses.hide (((Uses.unhide S4).alloc (.cells leafV.toArray 26)).next (grown_none hg) (((Uses.unhide S4).alloc (.cells leafV.toArray 26)).gs.rd.kept hg (by simp)))
    have hag : Ag w W2 w' W2.heap.size := ((Uses.unhide HAG).trans (Ag.none (World.grownBy_alloc W4 _ none))).trans (Ag.none hg)
    have hz4 := (Uses.unhide S4).hh
    have hPE : PE w w' W2.heap.size (d + 1) (.slice (some ⟨g', 0, none⟩) (kn + 1) cap') (ks ++ [leaf]) := PE.app (lo := lo) (by omega) (Uses.unhide HES) rfl hag ⟨by omega, by omega, hg2⟩ hkl hkn (fun g hga j hj => by
      rw [hold g hga j hj]
      subst hga
      obtain ⟨u, hu⟩ := cells_some hES4 hkl j hj
      rw [hu]
      exact (hg.cell (cell_alloc _ hu (Rule.lt_of_cell hu)) (by simp)).symm) ((Uses.unhide HKF).some) hnew
    have S6 := Uses.hide ((Uses.unhide S5).setKids hPE ⟨by rw [wtL_app, wtL_leaf]; omega, Rule.noL_app (Uses.unhide S5).bd.2.2.2.2 (Rule.noL1 ⟨Rule.nil_oth, Rule.noL0 _⟩)⟩)
    obtain ⟨_, _, _, d2, d3, d4, fz, _, _, _, _⟩ := Uses.unhide S4
    obtain ⟨_, v0, v1, v2, v3, v4, ⟨c0, c1, c2, c3, c4⟩, hf⟩ := (Uses.unhide S5).gs.box
    obtain ⟨_, f0, f1, f2, f3, f4, fz5, _, _, _, _⟩ := Uses.unhide S5
    have HRUN := Uses.hide hr
    clear hES4 hr hg hold hnew hPE hag d2 d4 fz
    go_wp2_with (first | (at_builtin; refine wpList_run rfl _ _ 23 rfl _ _ _ rfl rfl (Uses.unhide HRUN) ?_) | fail)
    obtain ⟨z0, z1, z2, z3, z4⟩ := put5_back (Uses.unhide S6).gs.box (.int .i64 k) (.int .i64 n) (.string m) (.slice (some ⟨g', 0, none⟩) (kn + 1) cap') (.slice ta tn tc)
    exact bodyPost_ret (v := .agg #[.int .i64 k, .int .i64 n, .string m, .slice (some ⟨g', 0, none⟩) (kn + 1) cap', .slice ta tn tc]) (by simp [results, Tryz.results13, go_sem, z0, z1, z2, z3, z4]) rfl ⟨_, rfl, (Uses.unhide S6).out (by omega) (by omega)⟩
  by_cases e2 : r = 2
  · subst e2
    obtain ⟨_, d0, d1, d2, d3, d4, fz, _, _, _, _⟩ := Uses.unhide S4
    go_wp2
    go_region_with (first | (go_at_call 21; refine (wordOf Rule.isEnd b (q2 + 1) W4.heap.size 0 3 3 _ ((Uses.unhide S4).alloc _).drew.gs.rd (by omega) (by omega) (by omega) (by have := (Uses.unhide S4).gs.bw; have := (Uses.unhide S4).gs.size; omega) (new_words Rule.isEnd W4 [⟨#[120]⟩, ⟨#[65]⟩, ⟨#[97, 100, 100]⟩] 9 w3s)).mono ?_; rintro x W5 ⟨y, rfl, hy, hR5, hg5⟩; obtain ⟨hy, hye⟩ := hy; have HYE := Uses.hide hye; clear hye; have hsz : m.size + y.size ≤ 9223372036854775807 := (by omega); have S5 := Uses.hide (((Uses.unhide S4).alloc _).drew.next hg5 hR5); have g2 := (Uses.unhide S5).c2; have g2f := (Uses.unhide S5).fz 2; clear hR5 hg5) | fail)
    all_goals (have S6 := Uses.hide ((Uses.unhide S5).setM (m ++ y) ⟨by rw [ByteArray.size_append]; omega, Uses.unhide HYE m⟩); obtain ⟨_, v0, v1, v2, v3, v4, ⟨c0, c1, c2, c3, c4⟩, hf⟩ := (Uses.unhide S5).gs.box; obtain ⟨_, f0, f1, f2, f3, f4, fz5, _, _, _, _⟩ := Uses.unhide S5; clear d0 d1 d2 d3 d4 fz)
    all_goals go_wp2
    all_goals (obtain ⟨z0, z1, z2, z3, z4⟩ := put5_back (Uses.unhide S6).gs.box (.int .i64 k) (.int .i64 n) (.string (m ++ y)) (.slice ka kn kc) (.slice ta tn tc))
    all_goals exact bodyPost_ret (v := .agg #[.int .i64 k, .int .i64 n, .string (m ++ y), .slice ka kn kc, .slice ta tn tc]) (by simp [results, Tryz.results13, go_sem, z0, z1, z2, z3, z4]) rfl ⟨_, rfl, (Uses.unhide S6).out (by omega) (by omega)⟩
  by_cases e3 : r = 3
  · subst e3
    have hd4 := (Uses.unhide S4).c4
    have htn : tn = ts.length := by
      rcases (Uses.unhide HTF) with ⟨h, rfl⟩ | ⟨g, c, h, _⟩
      · simp only [Value.slice.injEq] at h; simp [h]
      · simp only [Value.slice.injEq] at h; exact h.2.1
    subst htn
    have HNE : Hid (some W2.heap.size ≠ (Value.slice ta ts.length tc).ownBlock) := Uses.hide (fun e => by have := ((Uses.unhide HTR).2 _ e.symm).2.2; omega)
    go_wp2
    go_region_law (first | (go_simp; go_at_call 20; refine ((Uses.unhide S4).drew.pick (by omega) 3).mono ?_; rintro x W5 ⟨y, rfl, y0, y1, hS5, hg5⟩; have S5 := Uses.hide hS5; have G5 := Uses.hide hg5; have k4 := hS5.c4; have hlt5 : W2.heap.size < W5.heap.size := hS5.hh.2; have hne5 : W2.heap.size ≠ W5.heap.size := Nat.ne_of_lt hlt5; have z45 : W4.heap.size ≤ W5.heap.size := hg5.size; have HT5 := Uses.hide (((Uses.unhide HTR).1.kept (grown_drew1 W4 none) (by simp)).kept hg5 (fun j hj => by cases hj; have := hS5.gs.bw; omega)); clear hS5 hg5) | (refine stepAppT _ rfl _ _ rfl W1.heap.size W5.heap.size (IntKind.i64.wrap (y - 1)) (.slice ta ts.length tc) ts rfl rfl (TRow.kept (Uses.unhide HT5) (World.grownBy_alloc W5 _ none) (by simp)) (by rw [cell_new]; rfl) (by rw [cell_new]; rfl) (by omega) (by rw [World.size_alloc]; omega) ?_; intro g' c' w6 ho hgr hat hlt6; obtain ⟨k6a, k6b⟩ := (Uses.unhide S5).box4 hgr (Uses.unhide HNE)))
    all_goals (have hag5 : Ag w W2 (W5.alloc (.cells #[.int .i64 (IntKind.i64.wrap (y - 1)), .int .i64 0] 45)) W2.heap.size := (((Uses.unhide HAG).trans (Ag.none (grown_drew1 W4 none))).trans (Ag.grown (Uses.unhide G5) (Nat.le_of_lt (Uses.unhide S5).gs.bw))).trans (Ag.none (World.grownBy_alloc W5 _ none)))
    all_goals (have hgh : g' ≠ W2.heap.size := (by rcases hat with h | h; exact Nat.ne_of_lt ((Uses.unhide HTR).2 _ h).2.2; rw [h, World.size_alloc]; omega))
    all_goals (obtain ⟨hS6, ⟨k0, k1, k2, k3, k4'⟩, hfz, hbx⟩ := Rs.row (W2 := W2) (lo := lo) ((Uses.unhide S5).alloc _) hgr (fun j hj => ⟨((Uses.unhide HTR).2 j hj).2.1, ((Uses.unhide HTR).2 j hj).1, ((Uses.unhide HTR).2 j hj).2.2⟩) (by omega) (Uses.unhide HES) rfl hag5 (B := W1.heap.size) (by omega) ho hgh (by simp; omega))
    all_goals (have hlen : (ts ++ [(IntKind.i64.wrap (y - 1), (0 : Int))]).length = ts.length + 1 := (by simp); rw [hlen] at hS6; have S6 := Uses.hide hS6; obtain ⟨_, v0, v1, v2, v3, v4, ⟨c0, c1, c2, c3, c4⟩, hf⟩ := hbx; clear hS6 ho hgr hat hlt6 hag5 hlen hd4 k4 k6a k6b)
    all_goals go_wp2
    all_goals (obtain ⟨z0, z1, z2, z3, z4⟩ := put5_back (Uses.unhide S6).gs.box (.int .i64 k) (.int .i64 n) (.string m) (.slice ka kn kc) (.slice (some ⟨g', 0, none⟩) (ts.length + 1) c'))
    all_goals exact bodyPost_ret (v := .agg #[.int .i64 k, .int .i64 n, .string m, .slice ka kn kc, .slice (some ⟨g', 0, none⟩) (ts.length + 1) c']) (by simp [results, Tryz.results13, go_sem, z0, z1, z2, z3, z4]) rfl ⟨_, rfl, (Uses.unhide S6).out (by omega) (by omega)⟩
  by_cases e4 : r = 4
  · subst e4
    go_wp2_with fail
    refine (num isB b _ _ 0 4 4 _ ((Uses.unhide S4).alloc _).gs.rd (by omega) (by omega) (by omega) (by have := (Uses.unhide S4).gs.bw; have := (Uses.unhide S4).gs.size; omega) (new_nums isB W4 [0, 11, 3, 9] _ j1)).mono ?_
    rintro x W5 ⟨y, rfl, hy, hR5, hg5⟩
    have S5 := Uses.hide (((Uses.unhide S4).alloc _).next hg5 hR5)
    have S6 := Uses.hide ((Uses.unhide S5).setK y)
    obtain ⟨_, v0, v1, v2, v3, v4, ⟨c0, c1, c2, c3, c4⟩, hf⟩ := (Uses.unhide S5).gs.box
    obtain ⟨_, d0, d1, d2, d3, d4, fz, _, _, _, _⟩ := Uses.unhide S5
    clear hR5 hg5
    go_wp2
    obtain ⟨z0, z1, z2, z3, z4⟩ := put5_back (Uses.unhide S6).gs.box (.int .i64 y) (.int .i64 n) (.string m) (.slice ka kn kc) (.slice ta tn tc)
    exact bodyPost_ret (v := .agg #[.int .i64 y, .int .i64 n, .string m, .slice ka kn kc, .slice ta tn tc]) (by simp [results, Tryz.results13, go_sem, z0, z1, z2, z3, z4]) rfl ⟨_, rfl, (Uses.unhide S6).out (by omega) (by omega)⟩
  by_cases e5 : r = 5
  · subst e5
    go_wp2
    go_loopw [4] (fun ti wr => ∃ j : Nat, j ≤ 8 ∧ ti = .int .i64 j ∧ Hid (∃ d k n m ka kn kc ta tn tc ks ts, Rs w wr b (q2 + 1) W2.heap.size d k n m (.slice ka kn kc) (.slice ta tn tc) ks ts ∧ wtL ks ≤ 1280 + 26 * j)) (fun ti _ => 8 - (intOf ti).toNat)
    case atStart => exact ⟨0, by omega, rfl, Uses.hide ⟨d, k, n, m, ka, kn, kc, ta, tn, tc, ks, ts, Uses.unhide S4, by omega⟩⟩
    case round =>
      obtain ⟨j, hj, rfl, hS⟩ := hrel
      obtain ⟨d, k, n, m, ka, kn, kc, ta, tn, tc, ks, ts, hS5, hw5⟩ := Uses.unhide hS
      have S5 := Uses.hide hS5
      by_cases hlt8 : j < 8
      · have hwl : wtL [Ex.mk k n m ks ts] ≤ 1280 + 26 * (j + 1) := by
          obtain ⟨b1, b2, _⟩ := hS5.bd
          rw [wtL1, Rule.wt_eq]
          show 1 + (m.size + wtL ks + ts.length) ≤ _
          omega
        have S6 := Uses.hide (hS5.wrapA 26 (by omega))
        obtain ⟨_, d0, d1, d2, d3, d4, fz, ⟨_, hh2⟩, _, _, _⟩ := hS5
        have hne2 : W2.heap.size ≠ wr.heap.size := by omega
        clear hS S4 hw5
        go_wp2
        exact ⟨⟨j + 1, by omega, by go_num, Uses.hide ⟨d + 1, 6, 0, ⟨#[]⟩, _, _, _, _, _, _, _, _, Uses.unhide S6, hwl⟩⟩, by simp [intOf]; omega⟩
      · obtain ⟨_, v0, v1, v2, v3, v4, ⟨c0, c1, c2, c3, c4⟩, hf⟩ := hS5.gs.box
        obtain ⟨_, d0, d1, d2, d3, d4, fz, _, _, _, _⟩ := hS5
        clear hS S4
        go_wp2
        obtain ⟨z0, z1, z2, z3, z4⟩ := put5_back (Uses.unhide S5).gs.box (.int .i64 k) (.int .i64 n) (.string m) (.slice ka kn kc) (.slice ta tn tc)
        exact bodyPost_ret (v := .agg #[.int .i64 k, .int .i64 n, .string m, .slice ka kn kc, .slice ta tn tc]) (by simp [results, Tryz.results13, go_sem, z0, z1, z2, z3, z4]) rfl ⟨_, rfl, (Uses.unhide S5).out (by omega) (by omega)⟩
  · have b0 : (r == 0) = false := by simpa using e0
    have b1 : (r == 1) = false := by simpa using e1
    have b2 : (r == 2) = false := by simpa using e2
    have b3 : (r == 3) = false := by simpa using e3
    have b4 : (r == 4) = false := by simpa using e4
    have b5 : (r == 5) = false := by simpa using e5
    obtain ⟨_, v0, v1, v2, v3, v4, ⟨c0, c1, c2, c3, c4⟩, hf⟩ := (Uses.unhide S4).gs.box
    obtain ⟨_, d0, d1, d2, d3, d4, fz, _, _, _, _⟩ := Uses.unhide S4
    go_wp2
    obtain ⟨z0, z1, z2, z3, z4⟩ := put5_back (Uses.unhide S4).gs.box (.int .i64 k) (.int .i64 n) (.string m) (.slice ka kn kc) (.slice ta tn tc)
    exact bodyPost_ret (v := .agg #[.int .i64 k, .int .i64 n, .string m, .slice ka kn kc, .slice ta tn tc]) (by simp [results, Tryz.results13, go_sem, z0, z1, z2, z3, z4]) rfl ⟨_, rfl, (Uses.unhide S4).out (by omega) (by omega)⟩
end Go.Proofs.YtogkkkollmcijaaGreatDoor.Draw
end

section
/-
  Drawn expressions and drawn texts of expressions (DrawRuleText, DrawRuleRead).
-/
namespace Go.Proofs.YtogkkkollmcijaaGreatDoor.Draw
set_option linter.unusedVariables false
open Go.RowKit
open Rule (Ex EV ES TL Same wt wtL textE okE cnt allB wr bytesOf)

theorem grown_drewB {w W : World} {r : Option Nat} (h : w.grownBy W r) : w.grownBy W.drew r := ⟨h.os, h.tape, h.output, h.size, h.block⟩
theorem grown_allocB (w : World) (o : Obj) (r : Option Nat) : w.grownBy (w.alloc o) r := World.grownBy_alloc w o r
theorem text_len (e : Ex) : (textE e).length ≤ 8000 := by
  unfold textE
  split
  · next h =>
    obtain ⟨h1, h2, _⟩ := Rule.ok_all h
    have := Rule.wr_len e h1
    omega
  · simp
def isW1 (z : ByteArray) : Prop := z.size ≤ 1

set_option maxHeartbeats 2000000 in
set_option maxRecDepth 20000 in
theorem drawRB (a : Option Addr) (len cap : Nat) (w : World) (h : Bytes w a len cap) :
    Calls Tryz.prog 11 #[.slice a len cap] w fun x w' => ∃ s : ByteArray, x = .returned (.string s) ∧ s.size ≤ 20000 ∧ Below w.heap.size w w' := by
  go_enter Tryz.func11, Tryz.ntmps11
  go_wp2_with fail
  refine (openR a len cap w h).mono ?_
  rintro x w1 ⟨rfl, hR1, hb1⟩
  have B1 := Uses.hide hb1
  clear h hb1
  go_wp2_with fail
  refine (rule2 w.heap.size 0 w1 hR1 (by omega)).mono ?_
  rintro x w2 ⟨v, rfl, e, d, q, hE, hw, hR2, _, hq, hg2⟩
  have R2 := Uses.hide hR2
  have G2 := Uses.hide hg2
  clear hR1 hR2 hg2
  go_wp2_with fail
  refine (Rule.textS d w1.heap.size w2.heap.size v e w2 hE (Nat.le_refl _) (by omega)).mono ?_
  rintro x w6 ⟨rfl, hb6⟩
  have hsz : (bytesOf (textE e)).size ≤ 8000 := by
    show (textE e).toArray.size ≤ 8000
    rw [List.size_toArray]; exact text_len e
  have HR6 := Uses.hide ((Uses.unhide R2).kept (grown_of_below hb6 none) (by simp))
  have HG6 := Uses.hide (grown_trans (Uses.unhide G2) (grown_of_below hb6 (some w.heap.size)))
  clear hE hb6 R2 G2
  generalize bytesOf (textE e) = s at *
  by_cases hs0 : s.size = 0
  · go_wp2_with fail
    go_ret
    exact ⟨s, rfl, by omega, below_of (Uses.unhide B1) (Nat.le_refl _) (Uses.unhide HG6)⟩
  have hs1 : ((s.size : Int) == 0) = false := beq_eq_false_iff_ne.2 (by omega)
  have hs2 : (1 : Int) ≤ (s.size : Int) := by omega
  go_wp2_with fail
  refine (pick 2 w.heap.size q w6 (Uses.unhide HR6) (by omega)).mono ?_
  rintro x w7 ⟨z, rfl, z0, z1, hR7, hg7⟩
  have HR7 := Uses.hide hR7
  have HG7 := Uses.hide (grown_trans (Uses.unhide HG6) hg7)
  clear HR6 hR7 hg7 HG6
  by_cases hz : z = 0
  · subst hz
    go_wp2_with fail
    go_ret
    exact ⟨s, rfl, by omega, below_of (Uses.unhide B1) (Nat.le_refl _) (Uses.unhide HG7)⟩
  have hz' : (z == 0) = false := by simpa using hz
  clear hz
  go_wp2_with fail
  refine (pick (s.size : Int) w.heap.size (q + 1) w7 (Uses.unhide HR7) (by omega)).mono ?_
  rintro x w8 ⟨i, rfl, i0, i1, hR8, hg8⟩
  have i1' : i < (s.size : Int) := by omega
  have HG8 := Uses.hide (grown_trans (Uses.unhide HG7) hg8)
  have HGD := Uses.hide (grown_drewB (grown_allocB w8 (.cells #[.string ⟨#[]⟩, .string ⟨#[32]⟩, .string ⟨#[48]⟩, .string ⟨#[45]⟩, .string ⟨#[40]⟩, .string ⟨#[41]⟩, .string ⟨#[58]⟩, .string ⟨#[97]⟩, .string ⟨#[49]⟩] 9) (some w.heap.size)))
  have HW := Uses.hide (wordOf isW1 w.heap.size (q + 1 + 1) w8.heap.size 0 9 9 (w8.alloc (.cells #[.string ⟨#[]⟩, .string ⟨#[32]⟩, .string ⟨#[48]⟩, .string ⟨#[45]⟩, .string ⟨#[40]⟩, .string ⟨#[41]⟩, .string ⟨#[58]⟩, .string ⟨#[97]⟩, .string ⟨#[49]⟩] 9)).drew (hR8.kept (grown_drewB (grown_allocB w8 _ none)) (by simp)) (by omega) (by omega) (by omega) (by have := hR8.lt; omega) (new_words isW1 w8 [⟨#[]⟩, ⟨#[32]⟩, ⟨#[48]⟩, ⟨#[45]⟩, ⟨#[40]⟩, ⟨#[41]⟩, ⟨#[58]⟩, ⟨#[97]⟩, ⟨#[49]⟩] _ (by unfold isW1; decide)))
  have HP := Uses.hide (fun (W : World) hW => pick 2 w.heap.size (q + 1 + 1 + 1) W hW (by omega))
  obtain ⟨n, rfl⟩ := Int.eq_ofNat_of_zero_le i0
  clear HR7 HG7 hR8 hg8 i1
  have j0 : (0 : Int) ≤ (n : Int) := by omega
  have j1 : (n : Int) ≤ (s.size : Int) := by omega
  go_wp2_with fail
  go_region_held3 (fun _ => True) (trivial)
    (first | (go_at_call 21; refine (Uses.unhide HW).mono ?_; rintro x w9 ⟨y, rfl, hy, hR9, hg9⟩; have HG9 := Uses.hide (grown_trans (Uses.unhide HG8) (grown_trans (Uses.unhide HGD) hg9)); have hy1 : y.size ≤ 1 := hy; have hy2 : ¬ 9223372036854775807 < min n s.size + y.size := (by omega); have hy3 : ¬ 9223372036854775807 < n + y.size := (by omega); clear hg9 hy) | (go_at_call 20; refine (Uses.unhide HP _ hR9).mono ?_; rintro x w10 ⟨c, rfl, c0, c1, hR10, hg10⟩; have HG10 := Uses.hide (grown_trans (Uses.unhide HG9) hg10); have c2 : c ≤ 1 := (by omega); obtain ⟨c', rfl⟩ := Int.eq_ofNat_of_zero_le c0; obtain ⟨D, hD⟩ : ∃ D : Nat, (D : Int) = (n : Int) + (c' : Int) := ⟨n + c', by simp⟩; have hw : IntKind.i64.wrap ((n : Int) + (c' : Int)) = (D : Int) := (by rw [hD]; exact IntWalk.i64_in _ ⟨by omega, by omega⟩); have d1 : (D : Int) ≤ (s.size : Int) := (by omega); have d0 : (0 : Int) ≤ (D : Int) := (by omega); have dd : D ≤ s.size := (by omega); have hd3 : ¬ 9223372036854775807 < min n s.size + y.size + (s.size - D) := (by omega); have hd4 : ¬ 9223372036854775807 < n + y.size + (s.size - D) := (by omega); clear hD; clear c1 hg10))
  go_wp2
  go_ret
  exact ⟨_, rfl, by simp [ByteArray.size_append, ByteArray.size_extract]; omega, below_of (Uses.unhide B1) (Nat.le_refl _) (Uses.unhide HG10)⟩
set_option maxHeartbeats 4000000 in
set_option maxRecDepth 20000 in
/-- DrawRuleText -/
theorem drawTx (a : Option Addr) (len cap : Nat) (w : World) (h : Bytes w a len cap) :
    Calls Tryz.prog 4 #[.slice a len cap] w fun x w' => ∃ v e d, x = .returned v ∧ EV w.heap.size w'.heap.size w' d v e ∧ wt e ≤ 100000 ∧ Below w.heap.size w w' := by
  have hb0 : Below w.heap.size w (w.alloc (.cells #[.int .i64 0, .int .i64 0, .string ⟨#[]⟩, .slice none 0 0, .slice none 0 0] 26)) := (Below.refl _ _).alloc (Nat.le_refl _) _
  have X0 := Uses.hide (Bx.new w (.int .i64 0) (.int .i64 0) (.string ⟨#[]⟩) (.slice none 0 0) (.slice none 0 0) 26)
  have H := Uses.hide (h.kept hb0)
  have B0 := Uses.hide hb0
  have hz0 : (w.alloc (.cells #[.int .i64 0, .int .i64 0, .string ⟨#[]⟩, .slice none 0 0, .slice none 0 0] 26)).heap.size = w.heap.size + 1 := by simp
  clear h hb0
  go_enter Tryz.func4, Tryz.ntmps4
  go_wp2_with fail
  refine (openR a len cap _ (Uses.unhide H)).mono ?_
  rintro x w1 ⟨rfl, hR1, hb1⟩
  have z1 := hR1.lt
  have R1 := Uses.hide hR1
  have B1 := Uses.hide (Draw.below_trans (Uses.unhide B0) hb1)
  have X1 := Uses.hide ((Uses.unhide X0).grown (grown_of_below hb1 none) (by simp))
  rw [hz0] at R1 z1 ⊢
  clear hR1 hb1 B0 X0 hz0
  go_wp2_with fail
  refine (rule2 (w.heap.size + 1) 0 _ (Uses.unhide R1) (by omega)).mono ?_
  rintro x w2 ⟨v, rfl, e, d, q2, hE, ⟨hw, _⟩, hR2, _, hq2, hg2⟩
  obtain ⟨k, n, m, ka, kn, kc, ta, tn, tc, rfl⟩ := EV.form hE
  have E2 := Uses.hide hE
  have hX2 := (Uses.unhide X1).grown hg2 (by simp)
  have X2 := Uses.hide hX2
  have G2 := Uses.hide hg2
  have z2 := hg2.size
  obtain ⟨_, v0, v1, v2, v3, v4, ⟨b0, b1, b2, b3, b4⟩, hfz⟩ := hX2
  clear hE hR2 hg2 X1 R1
  go_wp2
  obtain ⟨y0, y1, y2, y3, y4⟩ := put5_back (Uses.unhide X2) (.int .i64 k) (.int .i64 n) (.string m) (.slice ka kn kc) (.slice ta tn tc)
  have hp := put5_grown w2 w.heap.size (.int .i64 k) (.int .i64 n) (.string m) (.slice ka kn kc) (.slice ta tn tc)
  refine bodyPost_ret (v := .agg #[.int .i64 k, .int .i64 n, .string m, .slice ka kn kc, .slice ta tn tc]) (by simp [results, Tryz.results4, go_sem, y0, y1, y2, y3, y4]) rfl ⟨_, e, d, rfl, ?_, hw, ?_⟩
  · exact ((Uses.unhide E2).kept (fun j h1 h2 => hp.block j (by omega) (by simp; omega))).mono (by omega) hp.size
  · exact ((Uses.unhide B1).grown (Uses.unhide G2) (Uses.unhide B1).size (fun j hj => by cases hj; omega)).grown hp (Nat.le_trans (Uses.unhide B1).size z2) (fun j hj => by cases hj; exact Nat.le_refl _)
end Go.Proofs.YtogkkkollmcijaaGreatDoor.Draw
end
