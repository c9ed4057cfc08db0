/-
  Texts of this proof laid together, in build order; each says of itself what it holds.
-/
import Derived.Test.YtogkkkollmcijaaGreatDoorZah
import Derived.Test.YtogkkkollmcijaaGreatDoorZab
section
/-
  Drawn expressions: l2Gen.
-/
namespace Go.Proofs.YtogkkkollmcijaaGreatDoor.Draw
set_option linter.unusedVariables false
open Go.RowKit
open Rule (Ex EV ES TL Same wt wtL oth noE noL)

theorem gset (w : World) (b o : Nat) (u : Value) : w.grownBy (w.setCell ⟨b, o, none⟩ u) (some b) := by
  refine ⟨rfl, rfl, rfl, ?_, ?_⟩
  · simp
  · intro j hj hne
    exact Below.heap_setCell w ⟨b, o, none⟩ u j (fun e => hne (by rw [e]))
theorem same_grown {lo hi b : Nat} {W W' : World} (hg : W.grownBy W' (some b)) (hb : b < lo) (h : hi ≤ W.heap.size) : Same lo hi W W' :=
  fun j h1 h2 => hg.block j (by omega) (by simp; omega)
theorem same_alloc {lo hi : Nat} (W : World) (o : Obj) (h : hi ≤ W.heap.size) : Same lo hi W (W.alloc o) := fun j _ h2 => Below.heap_alloc W o j (by omega)

/-- five cells that may be written -/
def Bx (W : World) (g : Nat) : Prop := g < W.heap.size ∧ ∃ v0 v1 v2 v3 v4, (W.cell? ⟨g, 0, none⟩ = some v0 ∧ W.cell? ⟨g, 1, none⟩ = some v1 ∧ W.cell? ⟨g, 2, none⟩ = some v2 ∧ W.cell? ⟨g, 3, none⟩ = some v3 ∧ W.cell? ⟨g, 4, none⟩ = some v4) ∧ ∀ j, W.frozen? ⟨g, j, none⟩ = false
theorem Bx.grown {W W' : World} {g : Nat} {r : Option Nat} (h : Bx W g) (hg : W.grownBy W' r) (hne : some g ≠ r) : Bx W' g := by
  obtain ⟨hlt, v0, v1, v2, v3, v4, ⟨c0, c1, c2, c3, c4⟩, hf⟩ := h
  have hblk : W'.heap[g]? = W.heap[g]? := hg.block g hlt hne
  have key : ∀ o : Nat, W'.cell? ⟨g, o, none⟩ = W.cell? ⟨g, o, none⟩ := fun o => World.cell?_of_block hblk
  refine ⟨Nat.lt_of_lt_of_le hlt hg.size, v0, v1, v2, v3, v4, ⟨(key _).trans c0, (key _).trans c1, (key _).trans c2, (key _).trans c3, (key _).trans c4⟩, fun j => ?_⟩
  have kf : W'.frozen? ⟨g, j, none⟩ = W.frozen? ⟨g, j, none⟩ := World.frozen?_of_block hblk
  exact kf.trans (hf j)
theorem Bx.new (w : World) (a b c d e : Value) (t : TypeId) : Bx (w.alloc (.cells #[a, b, c, d, e] t)) w.heap.size := by
  obtain ⟨n0, n1, n2, n3, n4⟩ := Rule.new5 w a b c d e t
  refine ⟨by simp, a, b, c, d, e, ⟨n0, n1, n2, n3, n4⟩, fun j => ?_⟩
  have e1 := (MapKept.heap_alloc w (.cells #[a, b, c, d, e] t)).1
  simp only [World.frozen?]
  rw [e1]
  simp

/-- the box once it is written -/
abbrev put5 (W : World) (g : Nat) (a b c d e : Value) : World := ((((W.setCell ⟨g, 0, none⟩ a).setCell ⟨g, 1, none⟩ b).setCell ⟨g, 2, none⟩ c).setCell ⟨g, 3, none⟩ d).setCell ⟨g, 4, none⟩ e
theorem put5_grown (W : World) (g : Nat) (a b c d e : Value) : W.grownBy (put5 W g a b c d e) (some g) :=
  grown_trans (grown_trans (grown_trans (grown_trans (gset _ _ _ _) (gset _ _ _ _)) (gset _ _ _ _)) (gset _ _ _ _)) (gset _ _ _ _)
theorem put5_back {W : World} {g : Nat} (h : Bx W g) (a b c d e : Value) :
    (W.setCell ⟨g, 0, none⟩ a).cell? ⟨g, 0, none⟩ = some a ∧ ((W.setCell ⟨g, 0, none⟩ a).setCell ⟨g, 1, none⟩ b).cell? ⟨g, 1, none⟩ = some b ∧
    (((W.setCell ⟨g, 0, none⟩ a).setCell ⟨g, 1, none⟩ b).setCell ⟨g, 2, none⟩ c).cell? ⟨g, 2, none⟩ = some c ∧
    ((((W.setCell ⟨g, 0, none⟩ a).setCell ⟨g, 1, none⟩ b).setCell ⟨g, 2, none⟩ c).setCell ⟨g, 3, none⟩ d).cell? ⟨g, 3, none⟩ = some d ∧
    (put5 W g a b c d e).cell? ⟨g, 4, none⟩ = some e := by
  obtain ⟨_, v0, v1, v2, v3, v4, ⟨c0, c1, c2, c3, c4⟩, _⟩ := h
  have o : ∀ {W : World} {i j : Nat} {u v : Value}, i ≠ j → W.cell? ⟨g, j, none⟩ = some v → (W.setCell ⟨g, i, none⟩ u).cell? ⟨g, j, none⟩ = some v := fun hij hc => (World.cell?_setCell_other _ _ _ _ (fun e => hij (by simp only [Addr.mk.injEq, and_true, true_and] at e; exact e))).trans hc
  exact ⟨World.cell?_setCell_same _ _ _ c0, World.cell?_setCell_same _ _ _ (o (by omega) c1), World.cell?_setCell_same _ _ _ (o (by omega) (o (by omega) c2)), World.cell?_setCell_same _ _ _ (o (by omega) (o (by omega) (o (by omega) c3))), World.cell?_setCell_same _ _ _ (o (by omega) (o (by omega) (o (by omega) (o (by omega) c4))))⟩

/-- under way: the reader, the box of the result, all else as it was -/
structure Gs (w W : World) (b q : Nat) : Prop where
  rd : Rd W b q
  gr : w.grownBy W (some b)
  bw : b < w.heap.size
  box : Bx W w.heap.size
theorem Gs.size {w W : World} {b q : Nat} (h : Gs w W b q) : w.heap.size < W.heap.size := h.box.1
theorem Gs.next {w W W' : World} {b q q' : Nat} (h : Gs w W b q) (hg : W.grownBy W' (some b)) (hr : Rd W' b q') : Gs w W' b q' :=
  ⟨hr, grown_trans h.gr hg, h.bw, h.box.grown hg (by have := h.bw; simp; omega)⟩
theorem Gs.alloc {w W : World} {b q : Nat} (h : Gs w W b q) (o : Obj) : Gs w (W.alloc o) b q := h.next (World.grownBy_alloc W _ _) (h.rd.kept (World.grownBy_alloc W _ none) (by simp))
theorem Gs.new (w : World) (b p : Nat) (hR : Rd w b p) (x0 x1 x2 x3 x4 : Value) (t : TypeId) : Gs w (w.alloc (.cells #[x0, x1, x2, x3, x4] t)) b p :=
  ⟨hR.kept (World.grownBy_alloc w _ none) (by simp), World.grownBy_alloc w _ _, hR.lt, Bx.new w _ _ _ _ _ t⟩
theorem Gs.words {w W : World} {b q : Nat} (h : Gs w W b q) (hq : q ≤ 1000000000) (Q : ByteArray → Prop) (n N : Nat) (hN : N = W.heap.size) (z : ByteArray) (zs : List ByteArray) (hn : n = (z :: zs).length) (hn' : n ≤ 1000) (t : TypeId) (hz : ∀ y ∈ z :: zs, Q y) :
    Calls Tryz.prog 21 #[.pointer (some ⟨b, 0, none⟩), .slice (some ⟨N, 0, none⟩) n n] (W.alloc (.cells ((z :: zs).map Value.string).toArray t)) fun e W' => ∃ y, e = .returned (.string y) ∧ Q y ∧ Gs w W' b (q + 1) := by
  subst hN
  have hs := h.size
  have hb := h.bw
  refine (wordOf Q b q W.heap.size 0 n n _ (h.alloc _).rd hq (by rw [hn]; simp) (by omega) (by omega) (by rw [hn]; exact new_words Q W (z :: zs) t hz)).mono ?_
  rintro e W1 ⟨y, rfl, hy, hR1, hg1⟩
  exact ⟨y, rfl, hy, (h.alloc _).next hg1 hR1⟩
theorem Gs.nums {w W : World} {b q : Nat} (h : Gs w W b q) (hq : q ≤ 1000000000) (Q : Int → Prop) (n N : Nat) (hN : N = W.heap.size) (z : Int) (zs : List Int) (hn : n = (z :: zs).length) (hn' : n ≤ 1000) (t : TypeId) (hz : ∀ y ∈ z :: zs, Q y) :
    Calls Tryz.prog 24 #[.pointer (some ⟨b, 0, none⟩), .slice (some ⟨N, 0, none⟩) n n] (W.alloc (.cells ((z :: zs).map (Value.int .i64)).toArray t)) fun e W' => ∃ y, e = .returned (.int .i64 y) ∧ Q y ∧ Gs w W' b (q + 1) := by
  subst hN
  have hs := h.size
  have hb := h.bw
  refine (num Q b q W.heap.size 0 n n _ (h.alloc _).rd hq (by rw [hn]; simp) (by omega) (by omega) (by rw [hn]; exact new_nums Q W (z :: zs) t hz)).mono ?_
  rintro e W1 ⟨y, rfl, hy, hR1, hg1⟩
  exact ⟨y, rfl, hy, (h.alloc _).next hg1 hR1⟩
theorem Gs.pick {w W : World} {b q : Nat} (h : Gs w W b q) (hq : q ≤ 1000000000) (n : Int) :
    Calls Tryz.prog 20 #[.pointer (some ⟨b, 0, none⟩), .int .i64 n] W fun e W' => ∃ r, e = .returned (.int .i64 r) ∧ 0 ≤ r ∧ (r < n ∨ r = 0) ∧ Gs w W' b (q + 1) := by
  refine (Draw.pick n b q W h.rd hq).mono ?_
  rintro e W1 ⟨r, rfl, r0, r1, hR1, hg1⟩
  exact ⟨r, rfl, r0, r1, h.next hg1 hR1⟩

/-- a row of kids without room -/
def KF (kv : Value) : Prop := kv = .slice none 0 0 ∨ ∃ g n, kv = .slice (some ⟨g, 0, none⟩) n n
/-- steps in a row of the call's own, in a block from B on and below lo -/
def TF (W : World) (B lo : Nat) (tv : Value) (ts : List (Int × Int)) : Prop := (tv = .slice none 0 0 ∧ ts = []) ∨ ∃ g c, tv = .slice (some ⟨g, 0, none⟩) ts.length c ∧ OwnT W B g c ts ∧ g < lo
theorem TF.grown {W W' : World} {B lo b : Nat} {tv : Value} {ts : List (Int × Int)} (h : TF W B lo tv ts) (hg : W.grownBy W' (some b)) (hb : b < B) : TF W' B lo tv ts := by
  rcases h with h | ⟨g, c, rfl, ho, hl⟩
  · exact .inl h
  · exact .inr ⟨g, c, rfl, ho.kept hg (by have := ho.lt; simp; omega), hl⟩
theorem TF.alloc {W : World} {B lo : Nat} {tv : Value} {ts : List (Int × Int)} (h : TF W B lo tv ts) (o : Obj) : TF (W.alloc o) B lo tv ts := by
  rcases h with h | ⟨g, c, rfl, ho, hl⟩
  · exact .inl h
  · exact .inr ⟨g, c, rfl, ho.kept (World.grownBy_alloc W _ none) (by simp), hl⟩
theorem TF.low {W : World} {B B' lo : Nat} {tv : Value} {ts : List (Int × Int)} (h : TF W B lo tv ts) (hb : B' ≤ B) : TF W B' lo tv ts := by
  rcases h with h | ⟨g, c, rfl, ho, hl⟩
  · exact .inl h
  · exact .inr ⟨g, c, rfl, ownsRow_le ho hb, hl⟩
theorem TF.tl {W : World} {B lo : Nat} {tv : Value} {ts : List (Int × Int)} (h : TF W B lo tv ts) : TL B W.heap.size W tv ts := by
  rcases h with ⟨rfl, rfl⟩ | ⟨g, c, rfl, h, _⟩
  · exact .inl ⟨rfl, _, _, rfl⟩
  · refine .inr ⟨g, 0, c, rfl, h.lt.1, h.lt.2, fun i hi => ?_⟩
    have := h.cells i (ts.getD i Tiers.T0) (by simp [List.getD, hi])
    rw [Nat.zero_add]
    exact this

/-- what is handed out: an expression in new memory -/
def GenOut (w w' : World) (b p C d : Nat) (v : Value) : Prop :=
  ∃ (k n : Int) (m : ByteArray) (kv tv : Value) (ks : List Ex) (ts : List (Int × Int)) (q lo : Nat), v = .agg #[.int .i64 k, .int .i64 n, .string m, kv, tv] ∧ (w.heap.size ≤ lo ∧ ES lo w'.heap.size w' d kv ks ∧ KF kv ∧ TF w' w.heap.size lo tv ts) ∧
    (m.size + wtL ks + ts.length ≤ 20 * 4 ^ C ∧ m.size ≤ 8 ∧ ts.length ≤ 4 ∧ (-1000000000 ≤ n ∧ n ≤ 1000000000) ∧ (m ≠ oth ∧ noL oth ks)) ∧ Rd w' b q ∧ p ≤ q ∧ q ≤ p + 20 * 4 ^ C ∧ w.grownBy w' (some b)
theorem GenOut.ev {w w' : World} {b p C d : Nat} {v : Value} (h : GenOut w w' b p C d v) : ∃ (e : Ex) (q : Nat), EV w.heap.size w'.heap.size w' d v e ∧ (wt e ≤ 20 * 4 ^ C ∧ noE oth e) ∧ Rd w' b q ∧ p ≤ q ∧ q ≤ p + 20 * 4 ^ C ∧ w.grownBy w' (some b) := by
  obtain ⟨k, n, m, kv, tv, ks, ts, q, lo, rfl, ⟨h1, h2, _, h4⟩, ⟨h5, h6, h7, _, h9⟩, hr⟩ := h
  refine ⟨.mk k n m ks ts, q, ⟨kv, tv, rfl, ⟨by show m.size ≤ maxLen; unfold maxLen; omega, by show ts.length ≤ maxLen; unfold maxLen; omega⟩, h2.mono h1 (Nat.le_refl _), h4.tl⟩, ⟨h5, h9⟩, hr⟩

/-- the result is written into its box -/
theorem Gs.out {w W : World} {b p q C d lo : Nat} (h : Gs w W b q) {k n : Int} {m : ByteArray} {kv tv : Value} {ks : List Ex} {ts : List (Int × Int)} (hm : m.size ≤ 8 ∧ m ≠ oth) (hn : -1000000000 ≤ n ∧ n ≤ 1000000000) (hts : ts.length ≤ 4 ∧ noL oth ks)
    (hlo : w.heap.size + 1 ≤ lo) (hk : ES lo W.heap.size W d kv ks) (hf : KF kv) (ht : TF W (w.heap.size + 1) lo tv ts) (hw : m.size + wtL ks + ts.length ≤ 20 * 4 ^ C) (h0 : p ≤ q) (h1 : q ≤ p + 20 * 4 ^ C) :
    GenOut w (put5 W w.heap.size (.int .i64 k) (.int .i64 n) (.string m) kv tv) b p C d (.agg #[.int .i64 k, .int .i64 n, .string m, kv, tv]) := by
  have hg := put5_grown W w.heap.size (.int .i64 k) (.int .i64 n) (.string m) kv tv
  have hb := h.bw
  have hs := h.size
  have hw' := h.gr
  have hsz : (put5 W w.heap.size (.int .i64 k) (.int .i64 n) (.string m) kv tv).heap.size = W.heap.size := by simp
  have hsm : Same lo W.heap.size W (put5 W w.heap.size (.int .i64 k) (.int .i64 n) (.string m) kv tv) := same_grown hg (by omega) (Nat.le_refl _)
  refine ⟨k, n, m, kv, tv, ks, ts, q, lo, rfl, ⟨by omega, ?_, hf, (ht.grown hg (by omega)).low (by omega)⟩, ⟨hw, hm.1, hts.1, hn, hm.2, hts.2⟩, h.rd.kept hg (fun j hj => by cases hj; omega), h0, h1, ?_⟩
  · rw [hsz]; exact hk.kept hsm
  · exact ⟨hg.os.trans hw'.os, hg.tape.trans hw'.tape, hg.output.trans hw'.output, Nat.le_trans hw'.size hg.size, fun j hj hne => (hg.block j (by omega) (by simp; omega)).trans (hw'.block j hj hne)⟩
/-- .. the kids' row laid beside it -/
theorem Gs.outA {w W : World} {b p q C d lo : Nat} (h : Gs w W b q) (o : Obj) {k n : Int} {m : ByteArray} {kv tv : Value} {ks : List Ex} {ts : List (Int × Int)} (hm : m.size ≤ 8 ∧ m ≠ oth) (hn : -1000000000 ≤ n ∧ n ≤ 1000000000) (hts : ts.length ≤ 4 ∧ noL oth ks)
    (hlo : w.heap.size + 1 ≤ lo) (hk : ES lo (W.alloc o).heap.size (W.alloc o) d kv ks) (hf : KF kv) (ht : TF W (w.heap.size + 1) lo tv ts) (hw : m.size + wtL ks + ts.length ≤ 20 * 4 ^ C) (h0 : p ≤ q) (h1 : q ≤ p + 20 * 4 ^ C) :
    GenOut w ((put5 W w.heap.size (.int .i64 k) (.int .i64 n) (.string m) kv tv).alloc o) b p C d (.agg #[.int .i64 k, .int .i64 n, .string m, kv, tv]) := by
  have hg := put5_grown W w.heap.size (.int .i64 k) (.int .i64 n) (.string m) kv tv
  have hb := h.bw
  have hs := h.size
  have hw' := h.gr
  have hsz : (put5 W w.heap.size (.int .i64 k) (.int .i64 n) (.string m) kv tv).heap.size = W.heap.size := by simp
  generalize put5 W w.heap.size (.int .i64 k) (.int .i64 n) (.string m) kv tv = X at *
  have hsA : (X.alloc o).heap.size = (W.alloc o).heap.size := by simp [hsz]
  have hsm : Same lo (W.alloc o).heap.size (W.alloc o) (X.alloc o) := by
    intro j h1 h2
    rw [World.size_alloc] at h2
    by_cases hj : j < W.heap.size
    · rw [Below.heap_alloc X o j (by omega), Below.heap_alloc W o j hj]
      exact hg.block j hj (by simp; omega)
    · obtain rfl : j = W.heap.size := by omega
      have e1 := (MapKept.heap_alloc X o).1
      rw [hsz] at e1
      exact e1.trans (MapKept.heap_alloc W o).1.symm
  refine ⟨k, n, m, kv, tv, ks, ts, q, lo, rfl, ⟨by omega, ?_, hf, ((ht.grown hg (by omega)).alloc o).low (by omega)⟩, ⟨hw, hm.1, hts.1, hn, hm.2, hts.2⟩, (h.rd.kept hg (fun j hj => by cases hj; omega)).kept (World.grownBy_alloc X _ none) (by simp), h0, h1, ?_⟩
  · rw [hsA]; exact hk.kept hsm
  · refine grown_trans ?_ (World.grownBy_alloc X _ _)
    exact ⟨hg.os.trans hw'.os, hg.tape.trans hw'.tape, hg.output.trans hw'.output, Nat.le_trans hw'.size hg.size, fun j hj hne => (hg.block j (by omega) (by simp; omega)).trans (hw'.block j hj hne)⟩
theorem ES.nought (lo hi : Nat) (W : World) (d : Nat) (a : Option Addr) (c : Nat) : ES lo hi W d (.slice a 0 c) [] := by
  cases d with
  | zero => exact ⟨rfl, _, _, rfl⟩
  | succ d => exact .inl ⟨rfl, _, _, rfl⟩
theorem TL.nought (lo hi : Nat) (W : World) (a : Option Addr) (c : Nat) : TL lo hi W (.slice a 0 c) [] := .inl ⟨rfl, _, _, rfl⟩

theorem cell_new (W : World) (A : Array Value) (t : TypeId) (i : Nat) : (W.alloc (.cells A t)).cell? ⟨W.heap.size, i, none⟩ = A[i]? := by
  have e1 := (MapKept.heap_alloc W (.cells A t)).1
  simp only [World.cell?]
  rw [e1]
  simp
/-- an expression's five cells, as the list of kids has them -/
theorem EV.five {lo hi : Nat} {W : World} {d : Nat} {a0 a1 a2 a3 a4 : Value} {e : Ex} (h : EV lo hi W d (.agg #[a0, a1, a2, a3, a4]) e) : (a0 = .int .i64 e.kind ∧ a1 = .int .i64 e.num ∧ a2 = .string e.meter) ∧ (e.meter.size ≤ maxLen ∧ e.tiers.length ≤ maxLen) ∧ ES lo hi W d a3 e.kids ∧ TL lo hi W a4 e.tiers := by
  obtain ⟨kv, tv, hv, hz, hk, ht⟩ := h
  simp only [Value.agg.injEq, Array.mk.injEq, List.cons.injEq, and_true] at hv
  obtain ⟨rfl, rfl, rfl, rfl, rfl⟩ := hv
  exact ⟨⟨rfl, rfl, rfl⟩, hz, hk, ht⟩
theorem ES.at {lo : Nat} {W W' : World} {d : Nat} {l : List Ex} {n : Nat} (hn : l.length = n) (hn' : n ≤ 3) (hlo : lo ≤ W.heap.size) (hs : W'.heap.size = W.heap.size + 1)
    (hc : ∀ i, i < n → ∃ kv tv, (W'.cell? ⟨W.heap.size, i * 5, none⟩ = some (.int .i64 (l.getD i Rule.E0).kind) ∧ W'.cell? ⟨W.heap.size, i * 5 + 1, none⟩ = some (.int .i64 (l.getD i Rule.E0).num) ∧ W'.cell? ⟨W.heap.size, i * 5 + 2, none⟩ = some (.string (l.getD i Rule.E0).meter) ∧
      W'.cell? ⟨W.heap.size, i * 5 + 3, none⟩ = some kv ∧ W'.cell? ⟨W.heap.size, i * 5 + 4, none⟩ = some tv) ∧ ((l.getD i Rule.E0).meter.size ≤ maxLen ∧ (l.getD i Rule.E0).tiers.length ≤ maxLen) ∧ ES lo W'.heap.size W' d kv (l.getD i Rule.E0).kids ∧ TL lo W'.heap.size W' tv (l.getD i Rule.E0).tiers) :
    ES lo W'.heap.size W' (d + 1) (.slice (some ⟨W.heap.size, 0, none⟩) n n) l := by
  subst hn
  refine .inr ⟨W.heap.size, 0, l.length, rfl, by unfold maxLen; omega, hlo, by omega, fun i hi => ?_⟩
  obtain ⟨kv, tv, hcs, h2⟩ := hc i hi
  refine ⟨kv, tv, ?_, h2⟩
  simp only [Nat.zero_add]
  exact hcs
theorem EV.up {lo : Nat} {W : World} {d : Nat} {v : Value} {e : Ex} (h : EV lo W.heap.size W d v e) (o : Obj) : EV lo (W.alloc o).heap.size (W.alloc o) d v e :=
  (h.kept (same_alloc W o (Nat.le_refl _))).mono (Nat.le_refl _) (by simp)
theorem ES.build1 {lo : Nat} {W : World} {d : Nat} {a0 a1 a2 a3 a4 : Value} {e : Ex} (h : EV lo W.heap.size W d (.agg #[a0, a1, a2, a3, a4]) e) (hlo : lo ≤ W.heap.size) (t : TypeId) :
    ES lo (W.alloc (.cells #[a0, a1, a2, a3, a4] t)).heap.size (W.alloc (.cells #[a0, a1, a2, a3, a4] t)) (d + 1) (.slice (some ⟨W.heap.size, 0, none⟩) 1 1) [e] := by
  obtain ⟨⟨rfl, rfl, rfl⟩, hz, hk, ht⟩ := EV.five (EV.up h (.cells #[a0, a1, a2, a3, a4] t))
  refine ES.at rfl (by omega) hlo (by simp) (fun i hi => ?_)
  obtain rfl : i = 0 := by omega
  exact ⟨a3, a4, ⟨cell_new _ _ _ _, cell_new _ _ _ _, cell_new _ _ _ _, cell_new _ _ _ _, cell_new _ _ _ _⟩, hz, hk, ht⟩
theorem ES.build2 {lo : Nat} {W : World} {d : Nat} {a0 a1 a2 a3 a4 b0 b1 b2 b3 b4 : Value} {e f : Ex} (h : EV lo W.heap.size W d (.agg #[a0, a1, a2, a3, a4]) e) (h' : EV lo W.heap.size W d (.agg #[b0, b1, b2, b3, b4]) f) (hlo : lo ≤ W.heap.size) (t : TypeId) :
    ES lo (W.alloc (.cells #[a0, a1, a2, a3, a4, b0, b1, b2, b3, b4] t)).heap.size (W.alloc (.cells #[a0, a1, a2, a3, a4, b0, b1, b2, b3, b4] t)) (d + 1) (.slice (some ⟨W.heap.size, 0, none⟩) 2 2) [e, f] := by
  obtain ⟨⟨rfl, rfl, rfl⟩, hz, hk, ht⟩ := EV.five (EV.up h (.cells #[a0, a1, a2, a3, a4, b0, b1, b2, b3, b4] t))
  obtain ⟨⟨rfl, rfl, rfl⟩, hz', hk', ht'⟩ := EV.five (EV.up h' (.cells #[.int .i64 e.kind, .int .i64 e.num, .string e.meter, a3, a4, b0, b1, b2, b3, b4] t))
  refine ES.at rfl (by omega) hlo (by simp) (fun i hi => ?_)
  match i, hi with
  | 0, _ => exact ⟨a3, a4, ⟨cell_new _ _ _ _, cell_new _ _ _ _, cell_new _ _ _ _, cell_new _ _ _ _, cell_new _ _ _ _⟩, hz, hk, ht⟩
  | 1, _ => exact ⟨b3, b4, ⟨cell_new _ _ _ _, cell_new _ _ _ _, cell_new _ _ _ _, cell_new _ _ _ _, cell_new _ _ _ _⟩, hz', hk', ht'⟩
  | i + 2, hi => omega
theorem ES.build3 {lo : Nat} {W : World} {d : Nat} {a0 a1 a2 a3 a4 b0 b1 b2 b3 b4 c0 c1 c2 c3 c4 : Value} {e f g : Ex} (h : EV lo W.heap.size W d (.agg #[a0, a1, a2, a3, a4]) e) (h' : EV lo W.heap.size W d (.agg #[b0, b1, b2, b3, b4]) f) (h'' : EV lo W.heap.size W d (.agg #[c0, c1, c2, c3, c4]) g) (hlo : lo ≤ W.heap.size) (t : TypeId) :
    ES lo (W.alloc (.cells #[a0, a1, a2, a3, a4, b0, b1, b2, b3, b4, c0, c1, c2, c3, c4] t)).heap.size (W.alloc (.cells #[a0, a1, a2, a3, a4, b0, b1, b2, b3, b4, c0, c1, c2, c3, c4] t)) (d + 1) (.slice (some ⟨W.heap.size, 0, none⟩) 3 3) [e, f, g] := by
  obtain ⟨⟨rfl, rfl, rfl⟩, hz, hk, ht⟩ := EV.five (EV.up h (.cells #[a0, a1, a2, a3, a4, b0, b1, b2, b3, b4, c0, c1, c2, c3, c4] t))
  obtain ⟨⟨rfl, rfl, rfl⟩, hz', hk', ht'⟩ := EV.five (EV.up h' (.cells #[.int .i64 e.kind, .int .i64 e.num, .string e.meter, a3, a4, b0, b1, b2, b3, b4, c0, c1, c2, c3, c4] t))
  obtain ⟨⟨rfl, rfl, rfl⟩, hz'', hk'', ht''⟩ := EV.five (EV.up h'' (.cells #[.int .i64 e.kind, .int .i64 e.num, .string e.meter, a3, a4, .int .i64 f.kind, .int .i64 f.num, .string f.meter, b3, b4, c0, c1, c2, c3, c4] t))
  refine ES.at rfl (by omega) hlo (by simp) (fun i hi => ?_)
  match i, hi with
  | 0, _ => exact ⟨a3, a4, ⟨cell_new _ _ _ _, cell_new _ _ _ _, cell_new _ _ _ _, cell_new _ _ _ _, cell_new _ _ _ _⟩, hz, hk, ht⟩
  | 1, _ => exact ⟨b3, b4, ⟨cell_new _ _ _ _, cell_new _ _ _ _, cell_new _ _ _ _, cell_new _ _ _ _, cell_new _ _ _ _⟩, hz', hk', ht'⟩
  | 2, _ => exact ⟨c3, c4, ⟨cell_new _ _ _ _, cell_new _ _ _ _, cell_new _ _ _ _, cell_new _ _ _ _, cell_new _ _ _ _⟩, hz'', hk'', ht''⟩
  | i + 3, hi => omega
end Go.Proofs.YtogkkkollmcijaaGreatDoor.Draw
end

section
/-
  l2Gen: a drawn expression, so deep at most.
-/
namespace Go.Proofs.YtogkkkollmcijaaGreatDoor.Draw
set_option linter.unusedVariables false
open Go.RowKit
open Rule (Ex EV ES TL Same wt wtL oth noE noL)

def GenE (d : Nat) : Prop := ∀ (b p : Nat) (w : World), Rd w b p → p + 20 * 4 ^ d ≤ 50000000 →
  Calls Tryz.prog 23 #[.pointer (some ⟨b, 0, none⟩), .int .i64 (d : Int)] w fun x w' => ∃ v, x = .returned v ∧ GenOut w w' b p d d v

theorem EV.form {lo hi : Nat} {W : World} {d : Nat} {v : Value} {e : Ex} (h : EV lo hi W d v e) : ∃ (k n : Int) (m : ByteArray) (ka : Option Addr) (kn kc : Nat) (ta : Option Addr) (tn tc : Nat), v = .agg #[.int .i64 k, .int .i64 n, .string m, .slice ka kn kc, .slice ta tn tc] := by
  obtain ⟨kv, tv, rfl, _, hk, ht⟩ := h
  obtain ⟨ka, kc, rfl, _⟩ := hk.form
  rcases ht with ⟨_, a, c, rfl⟩ | ⟨b, o, cap, rfl, _⟩
  · exact ⟨_, _, _, _, _, _, _, _, _, rfl⟩
  · exact ⟨_, _, _, _, _, _, _, _, _, rfl⟩
theorem wtL1 (e : Ex) : wtL [e] = 1 + wt e := by simp [wtL]
theorem wtL2 (e f : Ex) : wtL [e, f] = 2 + wt e + wt f := by simp [wtL]; omega
theorem wtL3 (e f g : Ex) : wtL [e, f, g] = 3 + wt e + wt f + wt g := by simp [wtL]; omega
theorem wtL0 : wtL [] = 0 := by simp [wtL]

def isK (z : Int) : Prop := -1000000000 ≤ z ∧ z ≤ 1000000000
theorem k1 : ∀ z ∈ ([0, 1, 2, 10, 99, 500, 1000, -5, -100, 12345, 1000000000, -1000000000] : List Int), isK z := by
  intro z hz
  simp only [List.mem_cons, List.not_mem_nil, or_false] at hz
  unfold isK
  omega
theorem k2 : ∀ z ∈ ([0, 250, 725, 1900, 5000, 10000, 12000, 1000000] : List Int), isK z := by
  intro z hz
  simp only [List.mem_cons, List.not_mem_nil, or_false] at hz
  unfold isK
  omega
theorem k3 : ∀ z ∈ ([3, 4, 5, 7, 8] : List Int), isK z := by
  intro z hz
  simp only [List.mem_cons, List.not_mem_nil, or_false] at hz
  unfold isK
  omega
theorem u1 : ∀ z ∈ ([⟨#[99, 97, 108, 108, 115]⟩, ⟨#[103, 98]⟩, ⟨#[115, 101, 97, 116, 115]⟩, ⟨#[120]⟩] : List ByteArray), Rule.isWd z := by
  intro z hz
  simp only [List.mem_cons, List.not_mem_nil, or_false] at hz
  rcases hz with rfl | rfl | rfl | rfl <;> (unfold Rule.isWd; decide)

theorem OwnT.tl {W : World} {B lo g c : Nat} {ts : List (Int × Int)} (h : OwnT W B g c ts) (hlo : lo ≤ B) : TL lo W.heap.size W (.slice (some ⟨g, 0, none⟩) ts.length c) ts := by
  refine .inr ⟨g, 0, c, rfl, Nat.le_trans hlo h.lt.1, h.lt.2, fun i hi => ?_⟩
  have := h.cells i (ts.getD i Tiers.T0) (by simp [List.getD, hi])
  rw [Nat.zero_add]
  exact this
theorem TL.grown {lo : Nat} {W W' : World} {b : Nat} {v : Value} {ts : List (Int × Int)} (h : TL lo W.heap.size W v ts) (hg : W.grownBy W' (some b)) (hb : b < lo) : TL lo W'.heap.size W' v ts :=
  (h.kept (same_grown hg hb (Nat.le_refl _))).mono (Nat.le_refl _) hg.size
theorem TL.up {lo : Nat} {W : World} {v : Value} {ts : List (Int × Int)} (h : TL lo W.heap.size W v ts) (o : Obj) : TL lo (W.alloc o).heap.size (W.alloc o) v ts :=
  (h.kept (same_alloc W o (Nat.le_refl _))).mono (Nat.le_refl _) (by simp)

/-- a kid is drawn -/
theorem Gs.kid {d : Nat} (H : GenE d) {w W : World} {b q : Nat} (h : Gs w W b q) (hq : q + 20 * 4 ^ d ≤ 50000000) (D : Int) (hD : D = d) :
    Calls Tryz.prog 23 #[.pointer (some ⟨b, 0, none⟩), .int .i64 D] W fun x W' => ∃ v, x = .returned v ∧ ∃ (e : Ex) (q' : Nat), EV W.heap.size W'.heap.size W' d v e ∧ (wt e ≤ 20 * 4 ^ d ∧ noE oth e) ∧ Gs w W' b q' ∧ q ≤ q' ∧ q' ≤ q + 20 * 4 ^ d ∧ W.grownBy W' (some b) := by
  subst hD
  refine (H b q W h.rd hq).mono ?_
  rintro x W' ⟨v, rfl, ho⟩
  obtain ⟨e, q', hE, hw, hR, h0, h1, hg⟩ := ho.ev
  exact ⟨v, rfl, e, q', hE, hw, h.next hg hR, h0, h1, hg⟩
theorem EV.grown {lo : Nat} {W W' : World} {b d : Nat} {v : Value} {e : Ex} (h : EV lo W.heap.size W d v e) (hg : W.grownBy W' (some b)) (hb : b < lo) : EV lo W'.heap.size W' d v e :=
  (h.kept (same_grown hg hb (Nat.le_refl _))).mono (Nat.le_refl _) hg.size

set_option maxHeartbeats 4000000 in
set_option maxRecDepth 20000 in
theorem gen0 : GenE 0 := by
  intro b p w hR hp
  have G0 := Uses.hide (Gs.new w b p hR (.int .i64 0) (.int .i64 0) (.string ⟨#[]⟩) (.slice none 0 0) (.slice none 0 0) 26)
  clear hR
  simp only [Nat.pow_zero, Nat.mul_one] at hp
  go_enter Tryz.func23, Tryz.ntmps23
  go_wp2_with fail
  refine ((Uses.unhide G0).pick (by omega) 10).mono ?_
  rintro e W1 ⟨r, rfl, r0, r1, hG1⟩
  have G1 := Uses.hide hG1
  clear G0 hG1
  go_wp2_with fail
  refine ((Uses.unhide G1).pick (by omega) 2).mono ?_
  rintro e W2 ⟨r', rfl, r0', r1', hG2⟩
  have G2 := Uses.hide hG2
  clear G1 hG2
  by_cases e0 : r' = 0
  · subst e0
    go_wp2_with fail
    refine ((Uses.unhide G2).nums (by omega) isK 12 _ rfl 0 [1, 2, 10, 99, 500, 1000, -5, -100, 12345, 1000000000, -1000000000] rfl (by omega) _ k1).mono ?_
    rintro e W3 ⟨y, rfl, hy, hG3⟩
    have G3 := Uses.hide hG3
    obtain ⟨_, v0, v1, v2, v3, v4, ⟨c0, c1, c2, c3, c4⟩, hf⟩ := hG3.box
    clear hG3 G2
    go_wp2
    obtain ⟨z0, z1, z2, z3, z4⟩ := put5_back (Uses.unhide G3).box (.int .i64 1) (.int .i64 y) (.string ⟨#[]⟩) (.slice none 0 0) (.slice none 0 0)
    exact bodyPost_ret (v := .agg #[.int .i64 1, .int .i64 y, .string ⟨#[]⟩, .slice none 0 0, .slice none 0 0]) (by simp [results, Tryz.results23, go_sem, z0, z1, z2, z3, z4]) rfl ⟨_, rfl, (Uses.unhide G3).out ⟨by show (0 : Nat) ≤ 8; omega, Rule.nil_oth⟩ hy ⟨by simp, Rule.noL0 _⟩ (Nat.le_refl _) (ES.nought _ _ _ _ _ _) (.inl rfl) (.inl ⟨rfl, rfl⟩) (by rw [wtL0]; show 0 + 0 + 0 ≤ _; omega) (by omega) (by rw [Nat.pow_zero]; omega)⟩
  · obtain rfl : r' = 1 := by omega
    go_wp2_with fail
    refine ((Uses.unhide G2).words (by omega) Rule.isWd 4 _ rfl ⟨#[99, 97, 108, 108, 115]⟩ [⟨#[103, 98]⟩, ⟨#[115, 101, 97, 116, 115]⟩, ⟨#[120]⟩] rfl (by omega) _ u1).mono ?_
    rintro e W3 ⟨y, rfl, hy, hG3⟩
    have G3 := Uses.hide hG3
    unfold Rule.isWd at hy
    obtain ⟨_, v0, v1, v2, v3, v4, ⟨c0, c1, c2, c3, c4⟩, hf⟩ := hG3.box
    clear hG3 G2
    go_wp2
    obtain ⟨z0, z1, z2, z3, z4⟩ := put5_back (Uses.unhide G3).box (.int .i64 2) (.int .i64 0) (.string y) (.slice none 0 0) (.slice none 0 0)
    exact bodyPost_ret (v := .agg #[.int .i64 2, .int .i64 0, .string y, .slice none 0 0, .slice none 0 0]) (by simp [results, Tryz.results23, go_sem, z0, z1, z2, z3, z4]) rfl ⟨_, rfl, (Uses.unhide G3).out hy (by omega) ⟨by simp, Rule.noL0 _⟩ (Nat.le_refl _) (ES.nought _ _ _ _ _ _) (.inl rfl) (.inl ⟨rfl, rfl⟩) (by rw [wtL0, Nat.pow_zero, List.length_nil]; omega) (by omega) (by rw [Nat.pow_zero]; omega)⟩
end Go.Proofs.YtogkkkollmcijaaGreatDoor.Draw
end

section
/-
  l2Gen: a drawn expression, one deeper.
-/
namespace Go.Proofs.YtogkkkollmcijaaGreatDoor.Draw
set_option linter.unusedVariables false
open Go.RowKit
open Rule (Ex EV ES TL Same wt wtL oth noE noL)

set_option maxHeartbeats 8000000 in
set_option maxRecDepth 20000 in
theorem genS {d : Nat} (H : GenE d) : GenE (d + 1) := by
  intro b p w hR hp
  have G0 := Uses.hide (Gs.new w b p hR (.int .i64 0) (.int .i64 0) (.string ⟨#[]⟩) (.slice none 0 0) (.slice none 0 0) 26)
  have hX : 4 ^ (d + 1) = 4 * 4 ^ d := by rw [Nat.pow_succ]; omega
  have hX1 : 1 ≤ 4 ^ d := Nat.pow_pos (by omega)
  have hdd : d < 4 ^ d := Nat.lt_pow_self (by omega)
  rw [hX] at hp
  have hd9 : (d : Int) ≤ 50000000 := by omega
  have HH : Hid (p + 20 * (4 * 4 ^ d) ≤ 50000000 ∧ 1 ≤ 4 ^ d ∧ 4 ^ (d + 1) = 4 * 4 ^ d) := Uses.hide ⟨hp, hX1, hX⟩
  clear hR hp hX hX1 hdd
  go_enter Tryz.func23, Tryz.ntmps23
  go_wp2_with fail
  refine ((Uses.unhide G0).pick (by have := Uses.unhide HH; omega) 10).mono ?_
  rintro e W1 ⟨r, rfl, r0, r1, hG1⟩
  have G2 := Uses.hide hG1
  clear G0 hG1
  have hd0 : ¬ ((d : Int) + 1 ≤ 0) := by omega
  by_cases e0 : r = 0
  · subst e0
    go_wp2_with fail
    refine ((Uses.unhide G2).nums (by have := Uses.unhide HH; (try have := Uses.unhide F1); (try have := Uses.unhide F2); (try have := Uses.unhide F3); omega) isK 12 _ rfl 0 [1, 2, 10, 99, 500, 1000, -5, -100, 12345, 1000000000, -1000000000] rfl (by omega) _ k1).mono ?_
    rintro e W3 ⟨y, rfl, hy, hG3⟩
    have G3 := Uses.hide hG3
    obtain ⟨_, v0, v1, v2, v3, v4, ⟨c0, c1, c2, c3, c4⟩, hf⟩ := hG3.box
    clear hG3 G2
    go_wp2
    obtain ⟨z0, z1, z2, z3, z4⟩ := put5_back (Uses.unhide G3).box (.int .i64 1) (.int .i64 y) (.string ⟨#[]⟩) (.slice none 0 0) (.slice none 0 0)
    exact bodyPost_ret (v := .agg #[.int .i64 1, .int .i64 y, .string ⟨#[]⟩, .slice none 0 0, .slice none 0 0]) (by simp [results, Tryz.results23, go_sem, z0, z1, z2, z3, z4]) rfl ⟨_, rfl, (Uses.unhide G3).out ⟨by show (0 : Nat) ≤ 8; omega, Rule.nil_oth⟩ hy ⟨by simp, Rule.noL0 _⟩ (Nat.le_refl _) (ES.nought _ _ _ _ _ _) (.inl rfl) (.inl ⟨rfl, rfl⟩) (by rw [wtL0]; show 0 + 0 + 0 ≤ _; omega) (by have := Uses.unhide HH; (try have := Uses.unhide F1); (try have := Uses.unhide F2); (try have := Uses.unhide F3); omega) (by rw [(Uses.unhide HH).2.2]; have := Uses.unhide HH; (try have := Uses.unhide F1); (try have := Uses.unhide F2); (try have := Uses.unhide F3); omega)⟩
  by_cases e1 : r = 1
  · subst e1
    go_wp2_with fail
    refine ((Uses.unhide G2).words (by have := Uses.unhide HH; (try have := Uses.unhide F1); (try have := Uses.unhide F2); (try have := Uses.unhide F3); omega) Rule.isWd 4 _ rfl ⟨#[99, 97, 108, 108, 115]⟩ [⟨#[103, 98]⟩, ⟨#[115, 101, 97, 116, 115]⟩, ⟨#[120]⟩] rfl (by omega) _ u1).mono ?_
    rintro e W3 ⟨y, rfl, hy, hG3⟩
    have G3 := Uses.hide hG3
    unfold Rule.isWd at hy
    obtain ⟨_, v0, v1, v2, v3, v4, ⟨c0, c1, c2, c3, c4⟩, hf⟩ := hG3.box
    clear hG3 G2
    go_wp2
    obtain ⟨z0, z1, z2, z3, z4⟩ := put5_back (Uses.unhide G3).box (.int .i64 2) (.int .i64 0) (.string y) (.slice none 0 0) (.slice none 0 0)
    exact bodyPost_ret (v := .agg #[.int .i64 2, .int .i64 0, .string y, .slice none 0 0, .slice none 0 0]) (by simp [results, Tryz.results23, go_sem, z0, z1, z2, z3, z4]) rfl ⟨_, rfl, (Uses.unhide G3).out hy (by omega) ⟨by simp, Rule.noL0 _⟩ (Nat.le_refl _) (ES.nought _ _ _ _ _ _) (.inl rfl) (.inl ⟨rfl, rfl⟩) (by rw [wtL0, (Uses.unhide HH).2.2, List.length_nil]; have := Uses.unhide HH; (try have := Uses.unhide F1); (try have := Uses.unhide F2); (try have := Uses.unhide F3); omega) (by have := Uses.unhide HH; (try have := Uses.unhide F1); (try have := Uses.unhide F2); (try have := Uses.unhide F3); omega) (by rw [(Uses.unhide HH).2.2]; have := Uses.unhide HH; (try have := Uses.unhide F1); (try have := Uses.unhide F2); (try have := Uses.unhide F3); omega)⟩
  by_cases e2 : r = 2
  · subst e2
    go_wp2_with fail
    refine ((Uses.unhide G2).words (by have := Uses.unhide HH; (try have := Uses.unhide F1); (try have := Uses.unhide F2); (try have := Uses.unhide F3); omega) Rule.isWd 4 _ rfl ⟨#[99, 97, 108, 108, 115]⟩ [⟨#[103, 98]⟩, ⟨#[115, 101, 97, 116, 115]⟩, ⟨#[120]⟩] rfl (by omega) _ u1).mono ?_
    rintro e W3 ⟨y, rfl, hy, hG3⟩
    have G3 := Uses.hide hG3
    unfold Rule.isWd at hy
    obtain ⟨_, v0, v1, v2, v3, v4, ⟨c0, c1, c2, c3, c4⟩, hf⟩ := hG3.box
    clear hG3 G2
    go_wp2
    obtain ⟨z0, z1, z2, z3, z4⟩ := put5_back (Uses.unhide G3).box (.int .i64 2) (.int .i64 0) (.string y) (.slice none 0 0) (.slice none 0 0)
    exact bodyPost_ret (v := .agg #[.int .i64 2, .int .i64 0, .string y, .slice none 0 0, .slice none 0 0]) (by simp [results, Tryz.results23, go_sem, z0, z1, z2, z3, z4]) rfl ⟨_, rfl, (Uses.unhide G3).out hy (by omega) ⟨by simp, Rule.noL0 _⟩ (Nat.le_refl _) (ES.nought _ _ _ _ _ _) (.inl rfl) (.inl ⟨rfl, rfl⟩) (by rw [wtL0, (Uses.unhide HH).2.2, List.length_nil]; have := Uses.unhide HH; (try have := Uses.unhide F1); (try have := Uses.unhide F2); (try have := Uses.unhide F3); omega) (by have := Uses.unhide HH; (try have := Uses.unhide F1); (try have := Uses.unhide F2); (try have := Uses.unhide F3); omega) (by rw [(Uses.unhide HH).2.2]; have := Uses.unhide HH; (try have := Uses.unhide F1); (try have := Uses.unhide F2); (try have := Uses.unhide F3); omega)⟩
  by_cases e3 : r = 3
  · subst e3
    go_wp2_with fail
    refine ((Uses.unhide G2).nums (by have := Uses.unhide HH; (try have := Uses.unhide F1); (try have := Uses.unhide F2); (try have := Uses.unhide F3); omega) isK 8 _ rfl 0 [250, 725, 1900, 5000, 10000, 12000, 1000000] rfl (by omega) _ k2).mono ?_
    rintro e W3 ⟨y, rfl, hy, hG3⟩
    have G3 := Uses.hide hG3
    clear hG3 G2
    go_wp2_with fail
    refine ((Uses.unhide G3).kid H (by have := Uses.unhide HH; (try have := Uses.unhide F1); (try have := Uses.unhide F2); (try have := Uses.unhide F3); omega) _ (by omega)).mono ?_
    rintro e W4 ⟨v, rfl, e1, q1, hE1, w1, hG4, a1, b1, hg1⟩
    obtain ⟨k1, n1, m1, ka1, kn1, kc1, ta1, tn1, tc1, rfl⟩ := EV.form hE1
    have F1 := Uses.hide (And.intro w1 (And.intro a1 b1))
    have E11 := Uses.hide (hE1.mono (Nat.succ_le_of_lt (Uses.unhide G3).size) (Nat.le_refl _))
    clear w1 a1 b1
    have G4 := Uses.hide hG4
    clear hE1 hG4 hg1 G3
    have K5 := Uses.hide (ES.build1 (Uses.unhide E11) (Nat.succ_le_of_lt (Uses.unhide G4).size) 26)
    obtain ⟨_, v0, v1, v2, v3, v4, ⟨c0, c1, c2, c3, c4⟩, hf⟩ := (Uses.unhide G4).box
    have hs := (Uses.unhide G4).size
    have hne : w.heap.size ≠ W4.heap.size := by omega
    clear E11
    go_wp2
    obtain ⟨z0, z1, z2, z3, z4⟩ := put5_back (Uses.unhide G4).box (.int .i64 6) (.int .i64 y) (.string ⟨#[]⟩) (.slice (some ⟨W4.heap.size, 0, none⟩) 1 1) (.slice none 0 0)
    exact bodyPost_ret (v := .agg #[.int .i64 6, .int .i64 y, .string ⟨#[]⟩, .slice (some ⟨W4.heap.size, 0, none⟩) 1 1, .slice none 0 0]) (by simp [results, Tryz.results23, go_sem, z0, z1, z2, z3, z4, hs]) rfl ⟨_, rfl, (Uses.unhide G4).outA _ ⟨by show (0 : Nat) ≤ 8; omega, Rule.nil_oth⟩ hy ⟨by simp, Rule.noL1 (Uses.unhide F1).1.2⟩ (Nat.le_refl _) (Uses.unhide K5) (.inr ⟨_, _, rfl⟩) (.inl ⟨rfl, rfl⟩) (by rw [wtL1, (Uses.unhide HH).2.2]; have := Uses.unhide HH; (try have := Uses.unhide F1); (try have := Uses.unhide F2); (try have := Uses.unhide F3); show 0 + _ + 0 ≤ _; omega) (by have := Uses.unhide HH; (try have := Uses.unhide F1); (try have := Uses.unhide F2); (try have := Uses.unhide F3); omega) (by rw [(Uses.unhide HH).2.2]; have := Uses.unhide HH; (try have := Uses.unhide F1); (try have := Uses.unhide F2); (try have := Uses.unhide F3); omega)⟩
  by_cases e4 : r = 4
  · subst e4
    go_wp2_with fail
    refine ((Uses.unhide G2).kid H (by have := Uses.unhide HH; (try have := Uses.unhide F1); (try have := Uses.unhide F2); (try have := Uses.unhide F3); omega) _ (by omega)).mono ?_
    rintro e W4 ⟨v, rfl, e1, q1, hE1, w1, hG4, a1, b1, hg1⟩
    obtain ⟨k1, n1, m1, ka1, kn1, kc1, ta1, tn1, tc1, rfl⟩ := EV.form hE1
    have F1 := Uses.hide (And.intro w1 (And.intro a1 b1))
    have E11 := Uses.hide (hE1.mono (Nat.succ_le_of_lt (Uses.unhide G2).size) (Nat.le_refl _))
    clear w1 a1 b1
    have G4 := Uses.hide hG4
    clear hE1 hG4 hg1 G2
    go_wp2_with fail
    refine ((Uses.unhide G4).kid H (by have := Uses.unhide HH; (try have := Uses.unhide F1); (try have := Uses.unhide F2); (try have := Uses.unhide F3); omega) _ (by omega)).mono ?_
    rintro e W5 ⟨v, rfl, e2, q2, hE2, w2, hG5, a2, b2, hg2⟩
    obtain ⟨k2, n2, m2, ka2, kn2, kc2, ta2, tn2, tc2, rfl⟩ := EV.form hE2
    have E12 := Uses.hide (EV.grown (Uses.unhide E11) hg2 (by have := (Uses.unhide G4).bw; omega))
    have F2 := Uses.hide (And.intro w2 (And.intro a2 b2))
    have E22 := Uses.hide (hE2.mono (Nat.succ_le_of_lt (Uses.unhide G4).size) (Nat.le_refl _))
    clear w2 a2 b2
    have G5 := Uses.hide hG5
    clear hE2 hG5 hg2 G4 E11
    go_wp2_with fail
    refine ((Uses.unhide G5).kid H (by have := Uses.unhide HH; (try have := Uses.unhide F1); (try have := Uses.unhide F2); (try have := Uses.unhide F3); omega) _ (by omega)).mono ?_
    rintro e W6 ⟨v, rfl, e3, q3, hE3, w3, hG6, a3, b3, hg3⟩
    obtain ⟨k3, n3, m3, ka3, kn3, kc3, ta3, tn3, tc3, rfl⟩ := EV.form hE3
    have E13 := Uses.hide (EV.grown (Uses.unhide E12) hg3 (by have := (Uses.unhide G5).bw; omega))
    have E23 := Uses.hide (EV.grown (Uses.unhide E22) hg3 (by have := (Uses.unhide G5).bw; omega))
    have F3 := Uses.hide (And.intro w3 (And.intro a3 b3))
    have E33 := Uses.hide (hE3.mono (Nat.succ_le_of_lt (Uses.unhide G5).size) (Nat.le_refl _))
    clear w3 a3 b3
    have G6 := Uses.hide hG6
    clear hE3 hG6 hg3 G5 E12 E22
    have K5 := Uses.hide (ES.build3 (Uses.unhide E13) (Uses.unhide E23) (Uses.unhide E33) (Nat.succ_le_of_lt (Uses.unhide G6).size) 26)
    obtain ⟨_, v0, v1, v2, v3, v4, ⟨c0, c1, c2, c3, c4⟩, hf⟩ := (Uses.unhide G6).box
    have hs := (Uses.unhide G6).size
    have hne : w.heap.size ≠ W6.heap.size := by omega
    clear E13 E23 E33
    go_wp2
    obtain ⟨z0, z1, z2, z3, z4⟩ := put5_back (Uses.unhide G6).box (.int .i64 9) (.int .i64 0) (.string ⟨#[]⟩) (.slice (some ⟨W6.heap.size, 0, none⟩) 3 3) (.slice none 0 0)
    exact bodyPost_ret (v := .agg #[.int .i64 9, .int .i64 0, .string ⟨#[]⟩, .slice (some ⟨W6.heap.size, 0, none⟩) 3 3, .slice none 0 0]) (by simp [results, Tryz.results23, go_sem, z0, z1, z2, z3, z4, hs]) rfl ⟨_, rfl, (Uses.unhide G6).outA _ ⟨by show (0 : Nat) ≤ 8; omega, Rule.nil_oth⟩ (by omega) ⟨by simp, Rule.noL3 (Uses.unhide F1).1.2 (Uses.unhide F2).1.2 (Uses.unhide F3).1.2⟩ (Nat.le_refl _) (Uses.unhide K5) (.inr ⟨_, _, rfl⟩) (.inl ⟨rfl, rfl⟩) (by rw [wtL3, (Uses.unhide HH).2.2]; have := Uses.unhide HH; (try have := Uses.unhide F1); (try have := Uses.unhide F2); (try have := Uses.unhide F3); show 0 + _ + 0 ≤ _; omega) (by have := Uses.unhide HH; (try have := Uses.unhide F1); (try have := Uses.unhide F2); (try have := Uses.unhide F3); omega) (by rw [(Uses.unhide HH).2.2]; have := Uses.unhide HH; (try have := Uses.unhide F1); (try have := Uses.unhide F2); (try have := Uses.unhide F3); omega)⟩
  by_cases e5 : r = 5
  · subst e5
    go_wp2_with fail
    refine (steps b _ _ (Uses.unhide G2).rd (by have := Uses.unhide HH; (try have := Uses.unhide F1); (try have := Uses.unhide F2); (try have := Uses.unhide F3); omega)).mono ?_
    rintro e W3 ⟨g, n, c, q3, ts, rfl, rfl, hn3, hO, hR3, hq0, hq1, hg3⟩
    have G3 := Uses.hide ((Uses.unhide G2).next hg3 hR3)
    have T3 := Uses.hide (show TF W3 (w.heap.size + 1) W3.heap.size (.slice (some ⟨g, 0, none⟩) ts.length c) ts from .inr ⟨g, c, rfl, ownsRow_le hO (Nat.succ_le_of_lt (Uses.unhide G2).size), (hO).lt.2⟩)
    have y33 := (Uses.unhide G3).size
    clear hO hR3 hg3 G2
    go_wp2_with fail
    refine ((Uses.unhide G3).kid H (by have := Uses.unhide HH; (try have := Uses.unhide F1); (try have := Uses.unhide F2); (try have := Uses.unhide F3); omega) _ (by omega)).mono ?_
    rintro e W4 ⟨v, rfl, e1, q1, hE1, w1, hG4, a1, b1, hg1⟩
    obtain ⟨k1, n1, m1, ka1, kn1, kc1, ta1, tn1, tc1, rfl⟩ := EV.form hE1
    have z34 := hg1.size
    have T4 := Uses.hide (TF.grown (Uses.unhide T3) hg1 (by have := (Uses.unhide G3).bw; omega))
    have F1 := Uses.hide (And.intro w1 (And.intro a1 b1))
    have E11 := Uses.hide hE1
    clear w1 a1 b1
    have G4 := Uses.hide hG4
    clear hE1 hG4 hg1 G3
    have K5 := Uses.hide (ES.build1 (Uses.unhide E11) z34 26)
    obtain ⟨_, v0, v1, v2, v3, v4, ⟨c0, c1, c2, c3, c4⟩, hf⟩ := (Uses.unhide G4).box
    have hs := (Uses.unhide G4).size
    have hne : w.heap.size ≠ W4.heap.size := by omega
    clear E11 T3
    go_wp2
    obtain ⟨z0, z1, z2, z3, z4⟩ := put5_back (Uses.unhide G4).box (.int .i64 10) (.int .i64 0) (.string ⟨#[]⟩) (.slice (some ⟨W4.heap.size, 0, none⟩) 1 1) (.slice (some ⟨g, 0, none⟩) ts.length c)
    exact bodyPost_ret (v := .agg #[.int .i64 10, .int .i64 0, .string ⟨#[]⟩, .slice (some ⟨W4.heap.size, 0, none⟩) 1 1, .slice (some ⟨g, 0, none⟩) ts.length c]) (by simp [results, Tryz.results23, go_sem, z0, z1, z2, z3, z4, hs]) rfl ⟨_, rfl, (Uses.unhide G4).outA _ ⟨by show (0 : Nat) ≤ 8; omega, Rule.nil_oth⟩ (by omega) ⟨by omega, Rule.noL1 (Uses.unhide F1).1.2⟩ (Nat.succ_le_of_lt y33) (Uses.unhide K5) (.inr ⟨_, _, rfl⟩) (Uses.unhide T4) (by rw [wtL1, (Uses.unhide HH).2.2]; have := Uses.unhide HH; (try have := Uses.unhide F1); (try have := Uses.unhide F2); (try have := Uses.unhide F3); show 0 + _ + _ ≤ _; omega) (by have := Uses.unhide HH; (try have := Uses.unhide F1); (try have := Uses.unhide F2); (try have := Uses.unhide F3); omega) (by rw [(Uses.unhide HH).2.2]; have := Uses.unhide HH; (try have := Uses.unhide F1); (try have := Uses.unhide F2); (try have := Uses.unhide F3); omega)⟩
  by_cases e6 : r = 6
  · subst e6
    go_wp2_with fail
    refine (steps b _ _ (Uses.unhide G2).rd (by have := Uses.unhide HH; (try have := Uses.unhide F1); (try have := Uses.unhide F2); (try have := Uses.unhide F3); omega)).mono ?_
    rintro e W3 ⟨g, n, c, q3, ts, rfl, rfl, hn3, hO, hR3, hq0, hq1, hg3⟩
    have G3 := Uses.hide ((Uses.unhide G2).next hg3 hR3)
    have T3 := Uses.hide (show TF W3 (w.heap.size + 1) W3.heap.size (.slice (some ⟨g, 0, none⟩) ts.length c) ts from .inr ⟨g, c, rfl, ownsRow_le hO (Nat.succ_le_of_lt (Uses.unhide G2).size), (hO).lt.2⟩)
    have y33 := (Uses.unhide G3).size
    clear hO hR3 hg3 G2
    go_wp2_with fail
    refine ((Uses.unhide G3).kid H (by have := Uses.unhide HH; (try have := Uses.unhide F1); (try have := Uses.unhide F2); (try have := Uses.unhide F3); omega) _ (by omega)).mono ?_
    rintro e W4 ⟨v, rfl, e1, q1, hE1, w1, hG4, a1, b1, hg1⟩
    obtain ⟨k1, n1, m1, ka1, kn1, kc1, ta1, tn1, tc1, rfl⟩ := EV.form hE1
    have z34 := hg1.size
    have T4 := Uses.hide (TF.grown (Uses.unhide T3) hg1 (by have := (Uses.unhide G3).bw; omega))
    have F1 := Uses.hide (And.intro w1 (And.intro a1 b1))
    have E11 := Uses.hide hE1
    clear w1 a1 b1
    have G4 := Uses.hide hG4
    clear hE1 hG4 hg1 G3
    have K5 := Uses.hide (ES.build1 (Uses.unhide E11) z34 26)
    obtain ⟨_, v0, v1, v2, v3, v4, ⟨c0, c1, c2, c3, c4⟩, hf⟩ := (Uses.unhide G4).box
    have hs := (Uses.unhide G4).size
    have hne : w.heap.size ≠ W4.heap.size := by omega
    clear E11 T3
    go_wp2
    obtain ⟨z0, z1, z2, z3, z4⟩ := put5_back (Uses.unhide G4).box (.int .i64 10) (.int .i64 0) (.string ⟨#[]⟩) (.slice (some ⟨W4.heap.size, 0, none⟩) 1 1) (.slice (some ⟨g, 0, none⟩) ts.length c)
    exact bodyPost_ret (v := .agg #[.int .i64 10, .int .i64 0, .string ⟨#[]⟩, .slice (some ⟨W4.heap.size, 0, none⟩) 1 1, .slice (some ⟨g, 0, none⟩) ts.length c]) (by simp [results, Tryz.results23, go_sem, z0, z1, z2, z3, z4, hs]) rfl ⟨_, rfl, (Uses.unhide G4).outA _ ⟨by show (0 : Nat) ≤ 8; omega, Rule.nil_oth⟩ (by omega) ⟨by omega, Rule.noL1 (Uses.unhide F1).1.2⟩ (Nat.succ_le_of_lt y33) (Uses.unhide K5) (.inr ⟨_, _, rfl⟩) (Uses.unhide T4) (by rw [wtL1, (Uses.unhide HH).2.2]; have := Uses.unhide HH; (try have := Uses.unhide F1); (try have := Uses.unhide F2); (try have := Uses.unhide F3); show 0 + _ + _ ≤ _; omega) (by have := Uses.unhide HH; (try have := Uses.unhide F1); (try have := Uses.unhide F2); (try have := Uses.unhide F3); omega) (by rw [(Uses.unhide HH).2.2]; have := Uses.unhide HH; (try have := Uses.unhide F1); (try have := Uses.unhide F2); (try have := Uses.unhide F3); omega)⟩
  · have b0 : (r == 0) = false := by simpa using e0
    have b1 : (r == 1) = false := by simpa using e1
    have b2 : (r == 2) = false := by simpa using e2
    have b3 : (r == 3) = false := by simpa using e3
    have b4 : (r == 4) = false := by simpa using e4
    have b5 : (r == 5) = false := by simpa using e5
    have b6 : (r == 6) = false := by simpa using e6
    go_wp2_with fail
    refine ((Uses.unhide G2).nums (by have := Uses.unhide HH; (try have := Uses.unhide F1); (try have := Uses.unhide F2); (try have := Uses.unhide F3); omega) isK 5 _ rfl 3 [4, 5, 7, 8] rfl (by omega) _ k3).mono ?_
    rintro e W3 ⟨y, rfl, hy, hG3⟩
    have G3 := Uses.hide hG3
    clear hG3 G2
    go_wp2_with fail
    refine ((Uses.unhide G3).kid H (by have := Uses.unhide HH; (try have := Uses.unhide F1); (try have := Uses.unhide F2); (try have := Uses.unhide F3); omega) _ (by omega)).mono ?_
    rintro e W4 ⟨v, rfl, e1, q1, hE1, w1, hG4, a1, b1, hg1⟩
    obtain ⟨k1, n1, m1, ka1, kn1, kc1, ta1, tn1, tc1, rfl⟩ := EV.form hE1
    have F1 := Uses.hide (And.intro w1 (And.intro a1 b1))
    have E11 := Uses.hide (hE1.mono (Nat.succ_le_of_lt (Uses.unhide G3).size) (Nat.le_refl _))
    clear w1 a1 b1
    have G4 := Uses.hide hG4
    clear hE1 hG4 hg1 G3
    go_wp2_with fail
    refine ((Uses.unhide G4).kid H (by have := Uses.unhide HH; (try have := Uses.unhide F1); (try have := Uses.unhide F2); (try have := Uses.unhide F3); omega) _ (by omega)).mono ?_
    rintro e W5 ⟨v, rfl, e2, q2, hE2, w2, hG5, a2, b2, hg2⟩
    obtain ⟨k2, n2, m2, ka2, kn2, kc2, ta2, tn2, tc2, rfl⟩ := EV.form hE2
    have E12 := Uses.hide (EV.grown (Uses.unhide E11) hg2 (by have := (Uses.unhide G4).bw; omega))
    have F2 := Uses.hide (And.intro w2 (And.intro a2 b2))
    have E22 := Uses.hide (hE2.mono (Nat.succ_le_of_lt (Uses.unhide G4).size) (Nat.le_refl _))
    clear w2 a2 b2
    have G5 := Uses.hide hG5
    clear hE2 hG5 hg2 G4 E11
    have K5 := Uses.hide (ES.build2 (Uses.unhide E12) (Uses.unhide E22) (Nat.succ_le_of_lt (Uses.unhide G5).size) 26)
    obtain ⟨_, v0, v1, v2, v3, v4, ⟨c0, c1, c2, c3, c4⟩, hf⟩ := (Uses.unhide G5).box
    have hs := (Uses.unhide G5).size
    have hne : w.heap.size ≠ W5.heap.size := by omega
    clear E12 E22
    go_wp2
    obtain ⟨z0, z1, z2, z3, z4⟩ := put5_back (Uses.unhide G5).box (.int .i64 y) (.int .i64 0) (.string ⟨#[]⟩) (.slice (some ⟨W5.heap.size, 0, none⟩) 2 2) (.slice none 0 0)
    exact bodyPost_ret (v := .agg #[.int .i64 y, .int .i64 0, .string ⟨#[]⟩, .slice (some ⟨W5.heap.size, 0, none⟩) 2 2, .slice none 0 0]) (by simp [results, Tryz.results23, go_sem, z0, z1, z2, z3, z4, hs]) rfl ⟨_, rfl, (Uses.unhide G5).outA _ ⟨by show (0 : Nat) ≤ 8; omega, Rule.nil_oth⟩ (by omega) ⟨by simp, Rule.noL2 (Uses.unhide F1).1.2 (Uses.unhide F2).1.2⟩ (Nat.le_refl _) (Uses.unhide K5) (.inr ⟨_, _, rfl⟩) (.inl ⟨rfl, rfl⟩) (by rw [wtL2, (Uses.unhide HH).2.2]; have := Uses.unhide HH; (try have := Uses.unhide F1); (try have := Uses.unhide F2); (try have := Uses.unhide F3); show 0 + _ + 0 ≤ _; omega) (by have := Uses.unhide HH; (try have := Uses.unhide F1); (try have := Uses.unhide F2); (try have := Uses.unhide F3); omega) (by rw [(Uses.unhide HH).2.2]; have := Uses.unhide HH; (try have := Uses.unhide F1); (try have := Uses.unhide F2); (try have := Uses.unhide F3); omega)⟩

theorem gen : ∀ d, GenE d
  | 0 => gen0
  | d + 1 => genS (gen d)
end Go.Proofs.YtogkkkollmcijaaGreatDoor.Draw
end
