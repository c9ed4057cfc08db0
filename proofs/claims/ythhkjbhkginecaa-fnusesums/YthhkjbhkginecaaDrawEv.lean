/-
  Drawn events: l3Drawn.
-/
import Derived.Test.YthhkjbhkginecaaDrawU
import Derived.Test.YthhkjbhkginecaaMark
namespace Go.Proofs.Ythhkjbhkginecaa.Draw
set_option linter.unusedVariables false
open Go.RowKit

def isW9 (z : ByteArray) : Prop := z.size ≤ 9
theorem w1 : ∀ z ∈ ([⟨#[97]⟩, ⟨#[98]⟩, ⟨#[99]⟩, ⟨#[101, 49]⟩, ⟨#[101, 50]⟩, ⟨#[101, 51]⟩, ⟨#[101, 52]⟩, ⟨#[122, 57]⟩, ⟨#[107]⟩, ⟨#[109]⟩] : List ByteArray), isW9 z := by
  intro z hz
  simp only [List.mem_cons, List.not_mem_nil, or_false] at hz
  rcases hz with rfl | rfl | rfl | rfl | rfl | rfl | rfl | rfl | rfl | rfl <;> (unfold isW9; decide)
theorem w2 : ∀ z ∈ ([⟨#[99, 97, 108, 108, 115]⟩, ⟨#[103, 98]⟩, ⟨#[115, 101, 97, 116, 115]⟩, ⟨#[120]⟩] : List ByteArray), isW9 z := by
  intro z hz
  simp only [List.mem_cons, List.not_mem_nil, or_false] at hz
  rcases hz with rfl | rfl | rfl | rfl <;> (unfold isW9; decide)
theorem w3 : ∀ z ∈ ([⟨#[]⟩, ⟨#[65]⟩, ⟨#[97, 98, 99, 100, 101, 102, 103, 104, 105]⟩, ⟨#[97, 32, 98]⟩] : List ByteArray), isW9 z := by
  intro z hz
  simp only [List.mem_cons, List.not_mem_nil, or_false] at hz
  rcases hz with rfl | rfl | rfl | rfl <;> (unfold isW9; decide)
theorem w4 : ∀ z ∈ ([⟨#[]⟩, ⟨#[97, 100, 100]⟩, ⟨#[71]⟩] : List ByteArray), isW9 z := by
  intro z hz
  simp only [List.mem_cons, List.not_mem_nil, or_false] at hz
  rcases hz with rfl | rfl | rfl <;> (unfold isW9; decide)

theorem grow_set (w : World) (b o : Nat) (u : Value) : w.grownBy (w.setCell ⟨b, o, none⟩ u) (some b) := by
  refine ⟨rfl, rfl, rfl, ?_, ?_⟩
  · simp
  · intro j hj hne
    exact Below.heap_setCell w ⟨b, o, none⟩ u j (fun e => hne (by rw [e]))
theorem EOwn.grown {W W' : World} {g : Nat} {l : List Evs.E} {r : Option Nat} (h : Evs.EOwn W g l) (hg : W.grownBy W' r) (hne : some g ≠ r) : Evs.EOwn W' g l := by
  have hblk : W'.heap[g]? = W.heap[g]? := hg.block g h.1.1 hne
  refine ⟨⟨Nat.lt_of_lt_of_le h.1.1 hg.size, fun i hi => ?_⟩, fun j => ?_⟩
  · have key : ∀ o : Nat, W'.cell? ⟨g, o, none⟩ = W.cell? ⟨g, o, none⟩ := fun o => World.cell?_of_block hblk
    obtain ⟨c0, c1, c2⟩ := h.1.2 i hi
    exact ⟨(key _).trans c0, (key _).trans c1, (key _).trans c2⟩
  · have key : W'.frozen? ⟨g, j, none⟩ = W.frozen? ⟨g, j, none⟩ := World.frozen?_of_block hblk
    exact key.trans (h.2 j)
theorem EOwn.new1 (w : World) (x : Evs.E) (t : TypeId) : Evs.EOwn (w.alloc (.cells #[.string x.1, .string x.2.1, .int .i64 x.2.2] t)) w.heap.size [x] := by
  have e1 := (MapKept.heap_alloc w (.cells #[.string x.1, .string x.2.1, .int .i64 x.2.2] t)).1
  refine ⟨⟨by simp, fun i hi => ?_⟩, fun j => ?_⟩
  · have : i = 0 := by simpa using hi
    subst this
    simp only [World.cell?]
    rw [e1]
    exact ⟨rfl, rfl, rfl⟩
  · simp only [World.frozen?]
    rw [e1]
    simp
theorem EOwn.at0 {W : World} {g : Nat} {s m : ByteArray} {q : Int} (h : Evs.EOwn W g [(s, m, q)]) : W.cell? ⟨g, 0, none⟩ = some (.string s) ∧ W.cell? ⟨g, 1, none⟩ = some (.string m) ∧ W.cell? ⟨g, 2, none⟩ = some (.int .i64 q) ∧ W.frozen? ⟨g, 0, none⟩ = false ∧ W.frozen? ⟨g, 1, none⟩ = false ∧ W.frozen? ⟨g, 2, none⟩ = false := by
  obtain ⟨c0, c1, c2⟩ := h.1.2 0 (by simp)
  exact ⟨by simpa using c0, by simpa using c1, by simpa using c2, h.2 _, h.2 _, h.2 _⟩

/-- under way: the reader, a box of the call's own, and all else as it was -/
structure St (w W : World) (b q g : Nat) (x : Evs.E) : Prop where
  rd : Rd W b q
  own : Evs.EOwn W g [x]
  gr : w.grownBy W (some b)
  bw : b < w.heap.size
  wg : w.heap.size ≤ g
theorem St.size {w W : World} {b q g : Nat} {x : Evs.E} (h : St w W b q g x) : g < W.heap.size := h.own.1.1
theorem St.next {w W W' : World} {b q q' g : Nat} {x : Evs.E} (h : St w W b q g x) (hg : W.grownBy W' (some b)) (hr : Rd W' b q') : St w W' b q' g x :=
  ⟨hr, EOwn.grown h.own hg (by have := h.bw; have := h.wg; simp; omega), grown_trans h.gr hg, h.bw, h.wg⟩
theorem St.words {w W : World} {b q g : Nat} {x : Evs.E} (h : St w W b q g x) (hq : q ≤ 1000000000) (Q : ByteArray → Prop) (n N : Nat) (hN : N = W.heap.size) (z : ByteArray) (zs : List ByteArray) (hn : n = (z :: zs).length) (hn' : n ≤ 1000) (t : TypeId) (hz : ∀ y ∈ z :: zs, Q y) :
    Calls Try.prog 52 #[.pointer (some ⟨b, 0, none⟩), .slice (some ⟨N, 0, none⟩) n n] (W.alloc (.cells ((z :: zs).map Value.string).toArray t)) fun e W' => ∃ y, e = .returned (.string y) ∧ Q y ∧ St w W' b (q + 1) g x := by
  subst hN
  have hs := h.size
  have hb := h.bw
  have hw := h.wg
  refine (wordOf Q b q W.heap.size 0 n n _ (h.rd.kept (World.grownBy_alloc W _ none) (by simp)) hq (by rw [hn]; simp) (by omega) (by omega) (by rw [hn]; exact new_words Q W (z :: zs) t hz)).mono ?_
  rintro e W1 ⟨y, rfl, hy, hR1, hg1⟩
  exact ⟨y, rfl, hy, h.next (grown_trans (World.grownBy_alloc W _ _) hg1) hR1⟩
theorem St.nums {w W : World} {b q g : Nat} {x : Evs.E} (h : St w W b q g x) (hq : q ≤ 1000000000) (Q : Int → Prop) (n N : Nat) (hN : N = W.heap.size) (z : Int) (zs : List Int) (hn : n = (z :: zs).length) (hn' : n ≤ 1000) (t : TypeId) (hz : ∀ y ∈ z :: zs, Q y) :
    Calls Try.prog 26 #[.pointer (some ⟨b, 0, none⟩), .slice (some ⟨N, 0, none⟩) n n] (W.alloc (.cells ((z :: zs).map (Value.int .i64)).toArray t)) fun e W' => ∃ y, e = .returned (.int .i64 y) ∧ Q y ∧ St w W' b (q + 1) g x := by
  subst hN
  have hs := h.size
  have hb := h.bw
  have hw := h.wg
  refine (num Q b q W.heap.size 0 n n _ (h.rd.kept (World.grownBy_alloc W _ none) (by simp)) hq (by rw [hn]; simp) (by omega) (by omega) (by rw [hn]; exact new_nums Q W (z :: zs) t hz)).mono ?_
  rintro e W1 ⟨y, rfl, hy, hR1, hg1⟩
  exact ⟨y, rfl, hy, h.next (grown_trans (World.grownBy_alloc W _ _) hg1) hR1⟩
theorem St.pick {w W : World} {b q g : Nat} {x : Evs.E} (h : St w W b q g x) (hq : q ≤ 1000000000) (n : Int) :
    Calls Try.prog 27 #[.pointer (some ⟨b, 0, none⟩), .int .i64 n] W fun e W' => ∃ r, e = .returned (.int .i64 r) ∧ 0 ≤ r ∧ (r < n ∨ r = 0) ∧ St w W' b (q + 1) g x := by
  refine (Draw.pick n b q W h.rd hq).mono ?_
  rintro e W1 ⟨r, rfl, r0, r1, hR1, hg1⟩
  exact ⟨r, rfl, r0, r1, h.next hg1 hR1⟩
theorem St.set {w W : World} {b q g : Nat} {x y : Evs.E} (h : St w W b q g x) (o : Nat) (u : Value) (ho : Evs.EOwn (W.setCell ⟨g, o, none⟩ u) g [y]) : St w (W.setCell ⟨g, o, none⟩ u) b q g y := by
  have hb := h.bw
  have hw := h.wg
  have hs := h.gr.size
  refine ⟨h.rd.kept (grow_set W g o u) (fun k hk => by cases hk; omega), ho, ?_, h.bw, h.wg⟩
  have hg := grow_set W g o u
  exact ⟨hg.os.trans h.gr.os, hg.tape.trans h.gr.tape, hg.output.trans h.gr.output, Nat.le_trans h.gr.size hg.size, fun j hj hne => (hg.block j (by omega) (by simp; omega)).trans (h.gr.block j hj hne)⟩
theorem St.setA {w W : World} {b q g : Nat} {s m : ByteArray} {n : Int} (h : St w W b q g (s, m, n)) (s' : ByteArray) : St w (W.setCell ⟨g, 0, none⟩ (.string s')) b q g (s', m, n) :=
  h.set 0 _ (by have := h.own.setA (k := 0) (by simp) s'; simpa using this)
theorem St.setB {w W : World} {b q g : Nat} {s m : ByteArray} {n : Int} (h : St w W b q g (s, m, n)) (s' : ByteArray) : St w (W.setCell ⟨g, 1, none⟩ (.string s')) b q g (s, s', n) :=
  h.set 1 _ (by have := h.own.setB (k := 0) (by simp) s'; simpa using this)
theorem St.setQ {w W : World} {b q g : Nat} {s m : ByteArray} {n : Int} (h : St w W b q g (s, m, n)) (n' : Int) : St w (W.setCell ⟨g, 2, none⟩ (.int .i64 n')) b q g (s, m, n') :=
  h.set 2 _ (by have := h.own.setQ (k := 0) (by simp) n'; simpa using this)
theorem St.new (w : World) (b p : Nat) (hR : Rd w b p) (x : Evs.E) (t : TypeId) : St w (w.alloc (.cells #[.string x.1, .string x.2.1, .int .i64 x.2.2] t)) b p w.heap.size x :=
  ⟨hR.kept (World.grownBy_alloc w _ none) (by simp), EOwn.new1 w x t, World.grownBy_alloc w _ _, hR.lt, Nat.le_refl _⟩

/-- the drawn event is handed out: written into the box of the result -/
theorem St.fin {w W3 W : World} {b q3 q h : Nat} {x x0 : Evs.E} (S3 : St w W3 b q3 w.heap.size x0) (T : St W3 W b q h x) (v0 v1 v2 : Value) :
    Rd (((W.setCell ⟨w.heap.size, 0, none⟩ v0).setCell ⟨w.heap.size, 1, none⟩ v1).setCell ⟨w.heap.size, 2, none⟩ v2) b q ∧ w.grownBy (((W.setCell ⟨w.heap.size, 0, none⟩ v0).setCell ⟨w.heap.size, 1, none⟩ v1).setCell ⟨w.heap.size, 2, none⟩ v2) (some b) := by
  have hb := S3.bw
  have hg : W.grownBy (((W.setCell ⟨w.heap.size, 0, none⟩ v0).setCell ⟨w.heap.size, 1, none⟩ v1).setCell ⟨w.heap.size, 2, none⟩ v2) (some w.heap.size) := grown_trans (grown_trans (grow_set _ _ _ _) (grow_set _ _ _ _)) (grow_set _ _ _ _)
  have hw := grown_trans S3.gr T.gr
  have hs := hw.size
  refine ⟨T.rd.kept hg (fun k hk => by cases hk; omega), ?_⟩
  exact ⟨hg.os.trans hw.os, hg.tape.trans hw.tape, hg.output.trans hw.output, Nat.le_trans hw.size hg.size, fun j hj hne => (hg.block j (by omega) (by simp; omega)).trans (hw.block j hj hne)⟩
theorem St.box {w W3 W : World} {b q3 q h : Nat} {x x0 : Evs.E} (S3 : St w W3 b q3 w.heap.size x0) (T : St W3 W b q h x) : Evs.EOwn W w.heap.size [x0] ∧ w.heap.size < h := by
  have hb := S3.bw
  have h1 := S3.size
  have h2 := T.wg
  exact ⟨EOwn.grown S3.own T.gr (by simp; omega), by omega⟩

theorem St.back {w W3 W : World} {b q3 q h : Nat} {x : Evs.E} {s m : ByteArray} {n : Int} (S3 : St w W3 b q3 w.heap.size (s, m, n)) (T : St W3 W b q h x) (v0 v1 v2 : Value) :
    (W.setCell ⟨w.heap.size, 0, none⟩ v0).cell? ⟨w.heap.size, 0, none⟩ = some v0 ∧ ((W.setCell ⟨w.heap.size, 0, none⟩ v0).setCell ⟨w.heap.size, 1, none⟩ v1).cell? ⟨w.heap.size, 1, none⟩ = some v1 ∧ (((W.setCell ⟨w.heap.size, 0, none⟩ v0).setCell ⟨w.heap.size, 1, none⟩ v1).setCell ⟨w.heap.size, 2, none⟩ v2).cell? ⟨w.heap.size, 2, none⟩ = some v2 := by
  obtain ⟨c0, c1, c2, _⟩ := EOwn.at0 (St.box S3 T).1
  refine ⟨World.cell?_setCell_same _ _ _ c0, World.cell?_setCell_same _ _ _ ((World.cell?_setCell_other _ _ _ _ (by simp)).trans c1), World.cell?_setCell_same _ _ _ ((World.cell?_setCell_other _ _ _ _ (by simp)).trans ((World.cell?_setCell_other _ _ _ _ (by simp)).trans c2))⟩

def isQ (z : Int) : Prop := -1 ≤ z ∧ z ≤ 1000000001
theorem q1 : ∀ z ∈ ([0, 1, 5, 100, 150, 1000, 250000] : List Int), isQ z := by
  intro z hz
  simp only [List.mem_cons, List.not_mem_nil, or_false] at hz
  unfold isQ
  omega
theorem q2 : ∀ z ∈ ([-1, 1000000000, 1000000001] : List Int), isQ z := by
  intro z hz
  simp only [List.mem_cons, List.not_mem_nil, or_false] at hz
  unfold isQ
  omega

set_option maxHeartbeats 1600000 in
/-- l3Drawn -/
theorem drawn (b p : Nat) (w : World) (hR : Rd w b p) (hp : p ≤ 100000000) :
    Calls Try.prog 36 #[.pointer (some ⟨b, 0, none⟩)] w fun e w' => ∃ (x : Evs.E) (q : Nat), e = .returned (Evs.eV x) ∧ isW9 x.1 ∧ isW9 x.2.1 ∧ isQ x.2.2 ∧ Rd w' b q ∧ p ≤ q ∧ q ≤ p + 5 ∧ w.grownBy w' (some b) := by
  have hbw := hR.lt
  have S0 := Uses.hide (St.new w b p hR (⟨#[]⟩, ⟨#[]⟩, 0) 31)
  have hz00 : (w.alloc (.cells #[.string ⟨#[]⟩, .string ⟨#[]⟩, .int .i64 0] 31)).heap.size = w.heap.size + 1 := by simp
  clear hR
  go_enter Try.func36, Try.ntmps36
  go_wp2_with fail
  refine ((Uses.unhide S0).words (by omega) isW9 10 _ hz00.symm ⟨#[97]⟩ [⟨#[98]⟩, ⟨#[99]⟩, ⟨#[101, 49]⟩, ⟨#[101, 50]⟩, ⟨#[101, 51]⟩, ⟨#[101, 52]⟩, ⟨#[122, 57]⟩, ⟨#[107]⟩, ⟨#[109]⟩] rfl (by omega) _ w1).mono ?_
  rintro e W1 ⟨x, rfl, hx, hS1⟩
  have S1 := Uses.hide hS1
  clear S0 hS1 hz00
  go_wp2_with fail
  refine ((Uses.unhide S1).words (by omega) isW9 4 _ rfl ⟨#[99, 97, 108, 108, 115]⟩ [⟨#[103, 98]⟩, ⟨#[115, 101, 97, 116, 115]⟩, ⟨#[120]⟩] rfl (by omega) _ w2).mono ?_
  rintro e W2 ⟨y, rfl, hy, hS2⟩
  have S2 := Uses.hide hS2
  clear S1 hS2
  go_wp2_with fail
  refine ((Uses.unhide S2).nums (by omega) isQ 7 _ rfl 0 [1, 5, 100, 150, 1000, 250000] rfl (by omega) _ q1).mono ?_
  rintro e W3 ⟨z, rfl, hz, hS3⟩
  have S3 := Uses.hide hS3
  clear S2 hS3
  go_wp2_with fail
  refine ((St.new W3 b _ (Uses.unhide S3).rd (x, y, z) 31).pick (by omega) 24).mono ?_
  rintro e W4 ⟨r, rfl, r0, _, hT4⟩
  have T4 := Uses.hide hT4
  obtain ⟨hO, hlt⟩ := (Uses.unhide S3).box hT4
  obtain ⟨d0, d1, d2, f0, f1, f2⟩ := EOwn.at0 hO
  obtain ⟨c0, c1, c2, g0, g1, g2⟩ := EOwn.at0 hT4.own
  have hne : w.heap.size ≠ W3.heap.size := by omega
  clear hT4 hO
  by_cases e0 : r = 0
  · subst e0
    clear d0 d1 d2 f0 f1 f2 c0 c1 c2 g0 g1 g2
    go_wp2_with fail
    refine ((Uses.unhide T4).words (by omega) isW9 4 _ rfl ⟨#[]⟩ [⟨#[65]⟩, ⟨#[97, 98, 99, 100, 101, 102, 103, 104, 105]⟩, ⟨#[97, 32, 98]⟩] rfl (by omega) _ w3).mono ?_
    rintro e W5 ⟨s, rfl, hs, hT5⟩
    have T5 := Uses.hide (hT5.setA s)
    obtain ⟨hO, _⟩ := (Uses.unhide S3).box hT5
    obtain ⟨d0, d1, d2, f0, f1, f2⟩ := EOwn.at0 hO
    obtain ⟨c0, c1, c2, g0, g1, g2⟩ := EOwn.at0 hT5.own
    clear hT5 hO T4
    go_wp2
    obtain ⟨k1, k2⟩ := (Uses.unhide S3).fin (Uses.unhide T5) (.string s) (.string y) (.int .i64 z)
    obtain ⟨m0, m1, m2⟩ := (Uses.unhide S3).back (Uses.unhide T5) (.string s) (.string y) (.int .i64 z)
    exact bodyPost_ret (v := .agg #[.string s, .string y, .int .i64 z]) (by simp [results, Try.results36, go_sem, m0, m1, m2]) rfl ⟨(s, y, z), _, rfl, hs, hy, hz, k1, by omega, by omega, k2⟩
  by_cases e1 : r = 1
  · subst e1
    clear d0 d1 d2 f0 f1 f2 c0 c1 c2 g0 g1 g2
    go_wp2_with fail
    refine ((Uses.unhide T4).words (by omega) isW9 3 _ rfl ⟨#[]⟩ [⟨#[97, 100, 100]⟩, ⟨#[71]⟩] rfl (by omega) _ w4).mono ?_
    rintro e W5 ⟨s, rfl, hs, hT5⟩
    have T5 := Uses.hide (hT5.setB s)
    obtain ⟨hO, _⟩ := (Uses.unhide S3).box hT5
    obtain ⟨d0, d1, d2, f0, f1, f2⟩ := EOwn.at0 hO
    obtain ⟨c0, c1, c2, g0, g1, g2⟩ := EOwn.at0 hT5.own
    clear hT5 hO T4
    go_wp2
    obtain ⟨k1, k2⟩ := (Uses.unhide S3).fin (Uses.unhide T5) (.string x) (.string s) (.int .i64 z)
    obtain ⟨m0, m1, m2⟩ := (Uses.unhide S3).back (Uses.unhide T5) (.string x) (.string s) (.int .i64 z)
    exact bodyPost_ret (v := .agg #[.string x, .string s, .int .i64 z]) (by simp [results, Try.results36, go_sem, m0, m1, m2]) rfl ⟨(x, s, z), _, rfl, hx, hs, hz, k1, by omega, by omega, k2⟩
  by_cases e2 : r = 2
  · subst e2
    clear d0 d1 d2 f0 f1 f2 c0 c1 c2 g0 g1 g2
    go_wp2_with fail
    refine ((Uses.unhide T4).nums (by omega) isQ 3 _ rfl (-1) [1000000000, 1000000001] rfl (by omega) _ q2).mono ?_
    rintro e W5 ⟨s, rfl, hs, hT5⟩
    have T5 := Uses.hide (hT5.setQ s)
    obtain ⟨hO, _⟩ := (Uses.unhide S3).box hT5
    obtain ⟨d0, d1, d2, f0, f1, f2⟩ := EOwn.at0 hO
    obtain ⟨c0, c1, c2, g0, g1, g2⟩ := EOwn.at0 hT5.own
    clear hT5 hO T4
    go_wp2
    obtain ⟨k1, k2⟩ := (Uses.unhide S3).fin (Uses.unhide T5) (.string x) (.string y) (.int .i64 s)
    obtain ⟨m0, m1, m2⟩ := (Uses.unhide S3).back (Uses.unhide T5) (.string x) (.string y) (.int .i64 s)
    exact bodyPost_ret (v := .agg #[.string x, .string y, .int .i64 s]) (by simp [results, Try.results36, go_sem, m0, m1, m2]) rfl ⟨(x, y, s), _, rfl, hx, hy, hs, k1, by omega, by omega, k2⟩
  · have b0 : (r == 0) = false := by simpa using e0
    have b1 : (r == 1) = false := by simpa using e1
    have b2 : (r == 2) = false := by simpa using e2
    go_wp2
    obtain ⟨k1, k2⟩ := (Uses.unhide S3).fin (Uses.unhide T4) (.string x) (.string y) (.int .i64 z)
    obtain ⟨m0, m1, m2⟩ := (Uses.unhide S3).back (Uses.unhide T4) (.string x) (.string y) (.int .i64 z)
    exact bodyPost_ret (v := .agg #[.string x, .string y, .int .i64 z]) (by simp [results, Try.results36, go_sem, m0, m1, m2]) rfl ⟨(x, y, z), _, rfl, hx, hy, hz, k1, by omega, by omega, k2⟩
end Go.Proofs.Ythhkjbhkginecaa.Draw
