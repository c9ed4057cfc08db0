/-
  Drawn expressions: l2Gen.
-/
import Derived.Test.YtdpefmjlmpjjbaaDrawU
import Derived.Test.YtdpefmjlmpjjbaaDrawSt
import Derived.Test.YtdpefmjlmpjjbaaExprs
import Derived.Test.YtdpefmjlmpjjbaaNoM
namespace Go.Proofs.Ytdpefmjlmpjjbaa.Draw
set_option linter.unusedVariables false
open Go.RowKit
open Rule (Ex EV ES TL Same wt wtL oth noE noL)

theorem gset (w : World) (b o : Nat) (u : Value) : w.grownBy (w.setCell ⟨b, o, none⟩ u) (some b) := by
  refine ⟨rfl, rfl, rfl, ?_, ?_⟩
  · simp
  · intro j hj hne
    exact Below.heap_setCell w ⟨b, o, none⟩ u j (fun e => hne (by rw [e]))
theorem same_grown {lo hi b : Nat} {W W' : World} (hg : W.grownBy W' (some b)) (hb : b < lo) (h : hi ≤ W.heap.size) : Same lo hi W W' :=
  fun j h1 h2 => hg.block j (by omega) (by simp; omega)
theorem same_alloc {lo hi : Nat} (W : World) (o : Obj) (h : hi ≤ W.heap.size) : Same lo hi W (W.alloc o) := fun j _ h2 => Below.heap_alloc W o j (by omega)

/-- five cells that may be written -/
def Bx (W : World) (g : Nat) : Prop := g < W.heap.size ∧ ∃ v0 v1 v2 v3 v4, (W.cell? ⟨g, 0, none⟩ = some v0 ∧ W.cell? ⟨g, 1, none⟩ = some v1 ∧ W.cell? ⟨g, 2, none⟩ = some v2 ∧ W.cell? ⟨g, 3, none⟩ = some v3 ∧ W.cell? ⟨g, 4, none⟩ = some v4) ∧ ∀ j, W.frozen? ⟨g, j, none⟩ = false
theorem Bx.grown {W W' : World} {g : Nat} {r : Option Nat} (h : Bx W g) (hg : W.grownBy W' r) (hne : some g ≠ r) : Bx W' g := by
  obtain ⟨hlt, v0, v1, v2, v3, v4, ⟨c0, c1, c2, c3, c4⟩, hf⟩ := h
  have hblk : W'.heap[g]? = W.heap[g]? := hg.block g hlt hne
  have key : ∀ o : Nat, W'.cell? ⟨g, o, none⟩ = W.cell? ⟨g, o, none⟩ := fun o => World.cell?_of_block hblk
  refine ⟨Nat.lt_of_lt_of_le hlt hg.size, v0, v1, v2, v3, v4, ⟨(key _).trans c0, (key _).trans c1, (key _).trans c2, (key _).trans c3, (key _).trans c4⟩, fun j => ?_⟩
  have kf : W'.frozen? ⟨g, j, none⟩ = W.frozen? ⟨g, j, none⟩ := World.frozen?_of_block hblk
  exact kf.trans (hf j)
theorem Bx.new (w : World) (a b c d e : Value) (t : TypeId) : Bx (w.alloc (.cells #[a, b, c, d, e] t)) w.heap.size := by
  obtain ⟨n0, n1, n2, n3, n4⟩ := Rule.new5 w a b c d e t
  refine ⟨by simp, a, b, c, d, e, ⟨n0, n1, n2, n3, n4⟩, fun j => ?_⟩
  have e1 := (MapKept.heap_alloc w (.cells #[a, b, c, d, e] t)).1
  simp only [World.frozen?]
  rw [e1]
  simp

/-- the box once it is written -/
abbrev put5 (W : World) (g : Nat) (a b c d e : Value) : World := ((((W.setCell ⟨g, 0, none⟩ a).setCell ⟨g, 1, none⟩ b).setCell ⟨g, 2, none⟩ c).setCell ⟨g, 3, none⟩ d).setCell ⟨g, 4, none⟩ e
theorem put5_grown (W : World) (g : Nat) (a b c d e : Value) : W.grownBy (put5 W g a b c d e) (some g) :=
  grown_trans (grown_trans (grown_trans (grown_trans (gset _ _ _ _) (gset _ _ _ _)) (gset _ _ _ _)) (gset _ _ _ _)) (gset _ _ _ _)
theorem put5_back {W : World} {g : Nat} (h : Bx W g) (a b c d e : Value) :
    (W.setCell ⟨g, 0, none⟩ a).cell? ⟨g, 0, none⟩ = some a ∧ ((W.setCell ⟨g, 0, none⟩ a).setCell ⟨g, 1, none⟩ b).cell? ⟨g, 1, none⟩ = some b ∧
    (((W.setCell ⟨g, 0, none⟩ a).setCell ⟨g, 1, none⟩ b).setCell ⟨g, 2, none⟩ c).cell? ⟨g, 2, none⟩ = some c ∧
    ((((W.setCell ⟨g, 0, none⟩ a).setCell ⟨g, 1, none⟩ b).setCell ⟨g, 2, none⟩ c).setCell ⟨g, 3, none⟩ d).cell? ⟨g, 3, none⟩ = some d ∧
    (put5 W g a b c d e).cell? ⟨g, 4, none⟩ = some e := by
  obtain ⟨_, v0, v1, v2, v3, v4, ⟨c0, c1, c2, c3, c4⟩, _⟩ := h
  have o : ∀ {W : World} {i j : Nat} {u v : Value}, i ≠ j → W.cell? ⟨g, j, none⟩ = some v → (W.setCell ⟨g, i, none⟩ u).cell? ⟨g, j, none⟩ = some v := fun hij hc => (World.cell?_setCell_other _ _ _ _ (fun e => hij (by simp only [Addr.mk.injEq, and_true, true_and] at e; exact e))).trans hc
  exact ⟨World.cell?_setCell_same _ _ _ c0, World.cell?_setCell_same _ _ _ (o (by omega) c1), World.cell?_setCell_same _ _ _ (o (by omega) (o (by omega) c2)), World.cell?_setCell_same _ _ _ (o (by omega) (o (by omega) (o (by omega) c3))), World.cell?_setCell_same _ _ _ (o (by omega) (o (by omega) (o (by omega) (o (by omega) c4))))⟩

/-- under way: the reader, the box of the result, all else as it was -/
structure Gs (w W : World) (b q : Nat) : Prop where
  rd : Rd W b q
  gr : w.grownBy W (some b)
  bw : b < w.heap.size
  box : Bx W w.heap.size
theorem Gs.size {w W : World} {b q : Nat} (h : Gs w W b q) : w.heap.size < W.heap.size := h.box.1
theorem Gs.next {w W W' : World} {b q q' : Nat} (h : Gs w W b q) (hg : W.grownBy W' (some b)) (hr : Rd W' b q') : Gs w W' b q' :=
  ⟨hr, grown_trans h.gr hg, h.bw, h.box.grown hg (by have := h.bw; simp; omega)⟩
theorem Gs.alloc {w W : World} {b q : Nat} (h : Gs w W b q) (o : Obj) : Gs w (W.alloc o) b q := h.next (World.grownBy_alloc W _ _) (h.rd.kept (World.grownBy_alloc W _ none) (by simp))
theorem Gs.new (w : World) (b p : Nat) (hR : Rd w b p) (x0 x1 x2 x3 x4 : Value) (t : TypeId) : Gs w (w.alloc (.cells #[x0, x1, x2, x3, x4] t)) b p :=
  ⟨hR.kept (World.grownBy_alloc w _ none) (by simp), World.grownBy_alloc w _ _, hR.lt, Bx.new w _ _ _ _ _ t⟩
theorem Gs.words {w W : World} {b q : Nat} (h : Gs w W b q) (hq : q ≤ 1000000000) (Q : ByteArray → Prop) (n N : Nat) (hN : N = W.heap.size) (z : ByteArray) (zs : List ByteArray) (hn : n = (z :: zs).length) (hn' : n ≤ 1000) (t : TypeId) (hz : ∀ y ∈ z :: zs, Q y) :
    Calls Try.prog 19 #[.pointer (some ⟨b, 0, none⟩), .slice (some ⟨N, 0, none⟩) n n] (W.alloc (.cells ((z :: zs).map Value.string).toArray t)) fun e W' => ∃ y, e = .returned (.string y) ∧ Q y ∧ Gs w W' b (q + 1) := by
  subst hN
  have hs := h.size
  have hb := h.bw
  refine (wordOf Q b q W.heap.size 0 n n _ (h.alloc _).rd hq (by rw [hn]; simp) (by omega) (by omega) (by rw [hn]; exact new_words Q W (z :: zs) t hz)).mono ?_
  rintro e W1 ⟨y, rfl, hy, hR1, hg1⟩
  exact ⟨y, rfl, hy, (h.alloc _).next hg1 hR1⟩
theorem Gs.nums {w W : World} {b q : Nat} (h : Gs w W b q) (hq : q ≤ 1000000000) (Q : Int → Prop) (n N : Nat) (hN : N = W.heap.size) (z : Int) (zs : List Int) (hn : n = (z :: zs).length) (hn' : n ≤ 1000) (t : TypeId) (hz : ∀ y ∈ z :: zs, Q y) :
    Calls Try.prog 11 #[.pointer (some ⟨b, 0, none⟩), .slice (some ⟨N, 0, none⟩) n n] (W.alloc (.cells ((z :: zs).map (Value.int .i64)).toArray t)) fun e W' => ∃ y, e = .returned (.int .i64 y) ∧ Q y ∧ Gs w W' b (q + 1) := by
  subst hN
  have hs := h.size
  have hb := h.bw
  refine (num Q b q W.heap.size 0 n n _ (h.alloc _).rd hq (by rw [hn]; simp) (by omega) (by omega) (by rw [hn]; exact new_nums Q W (z :: zs) t hz)).mono ?_
  rintro e W1 ⟨y, rfl, hy, hR1, hg1⟩
  exact ⟨y, rfl, hy, (h.alloc _).next hg1 hR1⟩
theorem Gs.pick {w W : World} {b q : Nat} (h : Gs w W b q) (hq : q ≤ 1000000000) (n : Int) :
    Calls Try.prog 18 #[.pointer (some ⟨b, 0, none⟩), .int .i64 n] W fun e W' => ∃ r, e = .returned (.int .i64 r) ∧ 0 ≤ r ∧ (r < n ∨ r = 0) ∧ Gs w W' b (q + 1) := by
  refine (Draw.pick n b q W h.rd hq).mono ?_
  rintro e W1 ⟨r, rfl, r0, r1, hR1, hg1⟩
  exact ⟨r, rfl, r0, r1, h.next hg1 hR1⟩

/-- a row of kids without room -/
def KF (kv : Value) : Prop := kv = .slice none 0 0 ∨ ∃ g n, kv = .slice (some ⟨g, 0, none⟩) n n
/-- steps in a row of the call's own, in a block from B on and below lo -/
def TF (W : World) (B lo : Nat) (tv : Value) (ts : List (Int × Int)) : Prop := (tv = .slice none 0 0 ∧ ts = []) ∨ ∃ g c, tv = .slice (some ⟨g, 0, none⟩) ts.length c ∧ OwnT W B g c ts ∧ g < lo
theorem TF.grown {W W' : World} {B lo b : Nat} {tv : Value} {ts : List (Int × Int)} (h : TF W B lo tv ts) (hg : W.grownBy W' (some b)) (hb : b < B) : TF W' B lo tv ts := by
  rcases h with h | ⟨g, c, rfl, ho, hl⟩
  · exact .inl h
  · exact .inr ⟨g, c, rfl, ho.kept hg (by have := ho.lt; simp; omega), hl⟩
theorem TF.alloc {W : World} {B lo : Nat} {tv : Value} {ts : List (Int × Int)} (h : TF W B lo tv ts) (o : Obj) : TF (W.alloc o) B lo tv ts := by
  rcases h with h | ⟨g, c, rfl, ho, hl⟩
  · exact .inl h
  · exact .inr ⟨g, c, rfl, ho.kept (World.grownBy_alloc W _ none) (by simp), hl⟩
theorem TF.low {W : World} {B B' lo : Nat} {tv : Value} {ts : List (Int × Int)} (h : TF W B lo tv ts) (hb : B' ≤ B) : TF W B' lo tv ts := by
  rcases h with h | ⟨g, c, rfl, ho, hl⟩
  · exact .inl h
  · exact .inr ⟨g, c, rfl, ownsRow_le ho hb, hl⟩
theorem TF.tl {W : World} {B lo : Nat} {tv : Value} {ts : List (Int × Int)} (h : TF W B lo tv ts) : TL B W.heap.size W tv ts := by
  rcases h with ⟨rfl, rfl⟩ | ⟨g, c, rfl, h, _⟩
  · exact .inl ⟨rfl, _, _, rfl⟩
  · refine .inr ⟨g, 0, c, rfl, h.lt.1, h.lt.2, fun i hi => ?_⟩
    have := h.cells i (ts.getD i Tiers.T0) (by simp [List.getD, hi])
    rw [Nat.zero_add]
    exact this

/-- what is handed out: an expression in new memory -/
def GenOut (w w' : World) (b p C d : Nat) (v : Value) : Prop :=
  ∃ (k n : Int) (m : ByteArray) (kv tv : Value) (ks : List Ex) (ts : List (Int × Int)) (q lo : Nat), v = .agg #[.int .i64 k, .int .i64 n, .string m, kv, tv] ∧ (w.heap.size ≤ lo ∧ ES lo w'.heap.size w' d kv ks ∧ KF kv ∧ TF w' w.heap.size lo tv ts) ∧
    (m.size + wtL ks + ts.length ≤ 20 * 4 ^ C ∧ m.size ≤ 8 ∧ ts.length ≤ 4 ∧ (-1000000000 ≤ n ∧ n ≤ 1000000000) ∧ (m ≠ oth ∧ noL oth ks)) ∧ Rd w' b q ∧ p ≤ q ∧ q ≤ p + 20 * 4 ^ C ∧ w.grownBy w' (some b)
theorem GenOut.ev {w w' : World} {b p C d : Nat} {v : Value} (h : GenOut w w' b p C d v) : ∃ (e : Ex) (q : Nat), EV w.heap.size w'.heap.size w' d v e ∧ (wt e ≤ 20 * 4 ^ C ∧ noE oth e) ∧ Rd w' b q ∧ p ≤ q ∧ q ≤ p + 20 * 4 ^ C ∧ w.grownBy w' (some b) := by
  obtain ⟨k, n, m, kv, tv, ks, ts, q, lo, rfl, ⟨h1, h2, _, h4⟩, ⟨h5, h6, h7, _, h9⟩, hr⟩ := h
  refine ⟨.mk k n m ks ts, q, ⟨kv, tv, rfl, ⟨by show m.size ≤ maxLen; unfold maxLen; omega, by show ts.length ≤ maxLen; unfold maxLen; omega⟩, h2.mono h1 (Nat.le_refl _), h4.tl⟩, ⟨h5, h9⟩, hr⟩

/-- the result is written into its box -/
theorem Gs.out {w W : World} {b p q C d lo : Nat} (h : Gs w W b q) {k n : Int} {m : ByteArray} {kv tv : Value} {ks : List Ex} {ts : List (Int × Int)} (hm : m.size ≤ 8 ∧ m ≠ oth) (hn : -1000000000 ≤ n ∧ n ≤ 1000000000) (hts : ts.length ≤ 4 ∧ noL oth ks)
    (hlo : w.heap.size + 1 ≤ lo) (hk : ES lo W.heap.size W d kv ks) (hf : KF kv) (ht : TF W (w.heap.size + 1) lo tv ts) (hw : m.size + wtL ks + ts.length ≤ 20 * 4 ^ C) (h0 : p ≤ q) (h1 : q ≤ p + 20 * 4 ^ C) :
    GenOut w (put5 W w.heap.size (.int .i64 k) (.int .i64 n) (.string m) kv tv) b p C d (.agg #[.int .i64 k, .int .i64 n, .string m, kv, tv]) := by
  have hg := put5_grown W w.heap.size (.int .i64 k) (.int .i64 n) (.string m) kv tv
  have hb := h.bw
  have hs := h.size
  have hw' := h.gr
  have hsz : (put5 W w.heap.size (.int .i64 k) (.int .i64 n) (.string m) kv tv).heap.size = W.heap.size := by simp
  have hsm : Same lo W.heap.size W (put5 W w.heap.size (.int .i64 k) (.int .i64 n) (.string m) kv tv) := same_grown hg (by omega) (Nat.le_refl _)
  refine ⟨k, n, m, kv, tv, ks, ts, q, lo, rfl, ⟨by omega, ?_, hf, (ht.grown hg (by omega)).low (by omega)⟩, ⟨hw, hm.1, hts.1, hn, hm.2, hts.2⟩, h.rd.kept hg (fun j hj => by cases hj; omega), h0, h1, ?_⟩
  · rw [hsz]; exact hk.kept hsm
  · exact ⟨hg.os.trans hw'.os, hg.tape.trans hw'.tape, hg.output.trans hw'.output, Nat.le_trans hw'.size hg.size, fun j hj hne => (hg.block j (by omega) (by simp; omega)).trans (hw'.block j hj hne)⟩
/-- .. the kids' row laid beside it -/
theorem Gs.outA {w W : World} {b p q C d lo : Nat} (h : Gs w W b q) (o : Obj) {k n : Int} {m : ByteArray} {kv tv : Value} {ks : List Ex} {ts : List (Int × Int)} (hm : m.size ≤ 8 ∧ m ≠ oth) (hn : -1000000000 ≤ n ∧ n ≤ 1000000000) (hts : ts.length ≤ 4 ∧ noL oth ks)
    (hlo : w.heap.size + 1 ≤ lo) (hk : ES lo (W.alloc o).heap.size (W.alloc o) d kv ks) (hf : KF kv) (ht : TF W (w.heap.size + 1) lo tv ts) (hw : m.size + wtL ks + ts.length ≤ 20 * 4 ^ C) (h0 : p ≤ q) (h1 : q ≤ p + 20 * 4 ^ C) :
    GenOut w ((put5 W w.heap.size (.int .i64 k) (.int .i64 n) (.string m) kv tv).alloc o) b p C d (.agg #[.int .i64 k, .int .i64 n, .string m, kv, tv]) := by
  have hg := put5_grown W w.heap.size (.int .i64 k) (.int .i64 n) (.string m) kv tv
  have hb := h.bw
  have hs := h.size
  have hw' := h.gr
  have hsz : (put5 W w.heap.size (.int .i64 k) (.int .i64 n) (.string m) kv tv).heap.size = W.heap.size := by simp
  generalize put5 W w.heap.size (.int .i64 k) (.int .i64 n) (.string m) kv tv = X at *
  have hsA : (X.alloc o).heap.size = (W.alloc o).heap.size := by simp [hsz]
  have hsm : Same lo (W.alloc o).heap.size (W.alloc o) (X.alloc o) := by
    intro j h1 h2
    rw [World.size_alloc] at h2
    by_cases hj : j < W.heap.size
    · rw [Below.heap_alloc X o j (by omega), Below.heap_alloc W o j hj]
      exact hg.block j hj (by simp; omega)
    · obtain rfl : j = W.heap.size := by omega
      have e1 := (MapKept.heap_alloc X o).1
      rw [hsz] at e1
      exact e1.trans (MapKept.heap_alloc W o).1.symm
  refine ⟨k, n, m, kv, tv, ks, ts, q, lo, rfl, ⟨by omega, ?_, hf, ((ht.grown hg (by omega)).alloc o).low (by omega)⟩, ⟨hw, hm.1, hts.1, hn, hm.2, hts.2⟩, (h.rd.kept hg (fun j hj => by cases hj; omega)).kept (World.grownBy_alloc X _ none) (by simp), h0, h1, ?_⟩
  · rw [hsA]; exact hk.kept hsm
  · refine grown_trans ?_ (World.grownBy_alloc X _ _)
    exact ⟨hg.os.trans hw'.os, hg.tape.trans hw'.tape, hg.output.trans hw'.output, Nat.le_trans hw'.size hg.size, fun j hj hne => (hg.block j (by omega) (by simp; omega)).trans (hw'.block j hj hne)⟩
theorem ES.nought (lo hi : Nat) (W : World) (d : Nat) (a : Option Addr) (c : Nat) : ES lo hi W d (.slice a 0 c) [] := by
  cases d with
  | zero => exact ⟨rfl, _, _, rfl⟩
  | succ d => exact .inl ⟨rfl, _, _, rfl⟩
theorem TL.nought (lo hi : Nat) (W : World) (a : Option Addr) (c : Nat) : TL lo hi W (.slice a 0 c) [] := .inl ⟨rfl, _, _, rfl⟩

theorem cell_new (W : World) (A : Array Value) (t : TypeId) (i : Nat) : (W.alloc (.cells A t)).cell? ⟨W.heap.size, i, none⟩ = A[i]? := by
  have e1 := (MapKept.heap_alloc W (.cells A t)).1
  simp only [World.cell?]
  rw [e1]
  simp
/-- an expression's five cells, as the list of kids has them -/
theorem EV.five {lo hi : Nat} {W : World} {d : Nat} {a0 a1 a2 a3 a4 : Value} {e : Ex} (h : EV lo hi W d (.agg #[a0, a1, a2, a3, a4]) e) : (a0 = .int .i64 e.kind ∧ a1 = .int .i64 e.num ∧ a2 = .string e.meter) ∧ (e.meter.size ≤ maxLen ∧ e.tiers.length ≤ maxLen) ∧ ES lo hi W d a3 e.kids ∧ TL lo hi W a4 e.tiers := by
  obtain ⟨kv, tv, hv, hz, hk, ht⟩ := h
  simp only [Value.agg.injEq, Array.mk.injEq, List.cons.injEq, and_true] at hv
  obtain ⟨rfl, rfl, rfl, rfl, rfl⟩ := hv
  exact ⟨⟨rfl, rfl, rfl⟩, hz, hk, ht⟩
theorem ES.at {lo : Nat} {W W' : World} {d : Nat} {l : List Ex} {n : Nat} (hn : l.length = n) (hn' : n ≤ 3) (hlo : lo ≤ W.heap.size) (hs : W'.heap.size = W.heap.size + 1)
    (hc : ∀ i, i < n → ∃ kv tv, (W'.cell? ⟨W.heap.size, i * 5, none⟩ = some (.int .i64 (l.getD i Rule.E0).kind) ∧ W'.cell? ⟨W.heap.size, i * 5 + 1, none⟩ = some (.int .i64 (l.getD i Rule.E0).num) ∧ W'.cell? ⟨W.heap.size, i * 5 + 2, none⟩ = some (.string (l.getD i Rule.E0).meter) ∧
      W'.cell? ⟨W.heap.size, i * 5 + 3, none⟩ = some kv ∧ W'.cell? ⟨W.heap.size, i * 5 + 4, none⟩ = some tv) ∧ ((l.getD i Rule.E0).meter.size ≤ maxLen ∧ (l.getD i Rule.E0).tiers.length ≤ maxLen) ∧ ES lo W'.heap.size W' d kv (l.getD i Rule.E0).kids ∧ TL lo W'.heap.size W' tv (l.getD i Rule.E0).tiers) :
    ES lo W'.heap.size W' (d + 1) (.slice (some ⟨W.heap.size, 0, none⟩) n n) l := by
  subst hn
  refine .inr ⟨W.heap.size, 0, l.length, rfl, by unfold maxLen; omega, hlo, by omega, fun i hi => ?_⟩
  obtain ⟨kv, tv, hcs, h2⟩ := hc i hi
  refine ⟨kv, tv, ?_, h2⟩
  simp only [Nat.zero_add]
  exact hcs
theorem EV.up {lo : Nat} {W : World} {d : Nat} {v : Value} {e : Ex} (h : EV lo W.heap.size W d v e) (o : Obj) : EV lo (W.alloc o).heap.size (W.alloc o) d v e :=
  (h.kept (same_alloc W o (Nat.le_refl _))).mono (Nat.le_refl _) (by simp)
theorem ES.build1 {lo : Nat} {W : World} {d : Nat} {a0 a1 a2 a3 a4 : Value} {e : Ex} (h : EV lo W.heap.size W d (.agg #[a0, a1, a2, a3, a4]) e) (hlo : lo ≤ W.heap.size) (t : TypeId) :
    ES lo (W.alloc (.cells #[a0, a1, a2, a3, a4] t)).heap.size (W.alloc (.cells #[a0, a1, a2, a3, a4] t)) (d + 1) (.slice (some ⟨W.heap.size, 0, none⟩) 1 1) [e] := by
  obtain ⟨⟨rfl, rfl, rfl⟩, hz, hk, ht⟩ := EV.five (EV.up h (.cells #[a0, a1, a2, a3, a4] t))
  refine ES.at rfl (by omega) hlo (by simp) (fun i hi => ?_)
  obtain rfl : i = 0 := by omega
  exact ⟨a3, a4, ⟨cell_new _ _ _ _, cell_new _ _ _ _, cell_new _ _ _ _, cell_new _ _ _ _, cell_new _ _ _ _⟩, hz, hk, ht⟩
theorem ES.build2 {lo : Nat} {W : World} {d : Nat} {a0 a1 a2 a3 a4 b0 b1 b2 b3 b4 : Value} {e f : Ex} (h : EV lo W.heap.size W d (.agg #[a0, a1, a2, a3, a4]) e) (h' : EV lo W.heap.size W d (.agg #[b0, b1, b2, b3, b4]) f) (hlo : lo ≤ W.heap.size) (t : TypeId) :
    ES lo (W.alloc (.cells #[a0, a1, a2, a3, a4, b0, b1, b2, b3, b4] t)).heap.size (W.alloc (.cells #[a0, a1, a2, a3, a4, b0, b1, b2, b3, b4] t)) (d + 1) (.slice (some ⟨W.heap.size, 0, none⟩) 2 2) [e, f] := by
  obtain ⟨⟨rfl, rfl, rfl⟩, hz, hk, ht⟩ := EV.five (EV.up h (.cells #[a0, a1, a2, a3, a4, b0, b1, b2, b3, b4] t))
  obtain ⟨⟨rfl, rfl, rfl⟩, hz', hk', ht'⟩ := EV.five (EV.up h' (.cells #[.int .i64 e.kind, .int .i64 e.num, .string e.meter, a3, a4, b0, b1, b2, b3, b4] t))
  refine ES.at rfl (by omega) hlo (by simp) (fun i hi => ?_)
  match i, hi with
  | 0, _ => exact ⟨a3, a4, ⟨cell_new _ _ _ _, cell_new _ _ _ _, cell_new _ _ _ _, cell_new _ _ _ _, cell_new _ _ _ _⟩, hz, hk, ht⟩
  | 1, _ => exact ⟨b3, b4, ⟨cell_new _ _ _ _, cell_new _ _ _ _, cell_new _ _ _ _, cell_new _ _ _ _, cell_new _ _ _ _⟩, hz', hk', ht'⟩
  | i + 2, hi => omega
theorem ES.build3 {lo : Nat} {W : World} {d : Nat} {a0 a1 a2 a3 a4 b0 b1 b2 b3 b4 c0 c1 c2 c3 c4 : Value} {e f g : Ex} (h : EV lo W.heap.size W d (.agg #[a0, a1, a2, a3, a4]) e) (h' : EV lo W.heap.size W d (.agg #[b0, b1, b2, b3, b4]) f) (h'' : EV lo W.heap.size W d (.agg #[c0, c1, c2, c3, c4]) g) (hlo : lo ≤ W.heap.size) (t : TypeId) :
    ES lo (W.alloc (.cells #[a0, a1, a2, a3, a4, b0, b1, b2, b3, b4, c0, c1, c2, c3, c4] t)).heap.size (W.alloc (.cells #[a0, a1, a2, a3, a4, b0, b1, b2, b3, b4, c0, c1, c2, c3, c4] t)) (d + 1) (.slice (some ⟨W.heap.size, 0, none⟩) 3 3) [e, f, g] := by
  obtain ⟨⟨rfl, rfl, rfl⟩, hz, hk, ht⟩ := EV.five (EV.up h (.cells #[a0, a1, a2, a3, a4, b0, b1, b2, b3, b4, c0, c1, c2, c3, c4] t))
  obtain ⟨⟨rfl, rfl, rfl⟩, hz', hk', ht'⟩ := EV.five (EV.up h' (.cells #[.int .i64 e.kind, .int .i64 e.num, .string e.meter, a3, a4, b0, b1, b2, b3, b4, c0, c1, c2, c3, c4] t))
  obtain ⟨⟨rfl, rfl, rfl⟩, hz'', hk'', ht''⟩ := EV.five (EV.up h'' (.cells #[.int .i64 e.kind, .int .i64 e.num, .string e.meter, a3, a4, .int .i64 f.kind, .int .i64 f.num, .string f.meter, b3, b4, c0, c1, c2, c3, c4] t))
  refine ES.at rfl (by omega) hlo (by simp) (fun i hi => ?_)
  match i, hi with
  | 0, _ => exact ⟨a3, a4, ⟨cell_new _ _ _ _, cell_new _ _ _ _, cell_new _ _ _ _, cell_new _ _ _ _, cell_new _ _ _ _⟩, hz, hk, ht⟩
  | 1, _ => exact ⟨b3, b4, ⟨cell_new _ _ _ _, cell_new _ _ _ _, cell_new _ _ _ _, cell_new _ _ _ _, cell_new _ _ _ _⟩, hz', hk', ht'⟩
  | 2, _ => exact ⟨c3, c4, ⟨cell_new _ _ _ _, cell_new _ _ _ _, cell_new _ _ _ _, cell_new _ _ _ _, cell_new _ _ _ _⟩, hz'', hk'', ht''⟩
  | i + 3, hi => omega
end Go.Proofs.Ytdpefmjlmpjjbaa.Draw
