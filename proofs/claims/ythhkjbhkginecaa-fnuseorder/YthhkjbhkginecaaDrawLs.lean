/-
  Drawn lists of events: l3List, and what is drawn for UseFix.
-/
import Derived.Test.YthhkjbhkginecaaDrawEv
import Derived.Test.YthhkjbhkginecaaPutS3
namespace Go.Proofs.Ythhkjbhkginecaa.Draw
set_option linter.unusedVariables false
open Go.RowKit

/-- as events are drawn -/
def goodE (u : Evs.E) : Prop := isW9 u.1 ∧ isW9 u.2.1 ∧ isQ u.2.2
theorem goodE.size {u : Evs.E} (h : goodE u) : u.1.size ≤ maxLen ∧ u.2.1.size ≤ maxLen := by
  obtain ⟨h1, h2, _⟩ := h
  unfold isW9 at h1 h2
  unfold maxLen
  omega
theorem XO.low {W : World} {B B' b c : Nat} {l : List Evs.E} (h : Evs.XO W B b c l) (hb : B' ≤ B) : Evs.XO W B' b c l := by
  obtain ⟨h1, h2⟩ := h
  refine ⟨h1, ?_⟩
  rcases h2 with h2 | ⟨g, cap, cur, hv, hB, hr⟩
  · exact .inl h2
  · exact .inr ⟨g, cap, cur, hv, Nat.le_trans hb hB, hr⟩
theorem putO_len {l : List Evs.E} {e : Evs.E} : (Evs.putO l e).length ≤ l.length + 1 := by
  unfold Evs.putO
  split
  · exact Evs.putL_len
  · simp
theorem putO_good {l : List Evs.E} {e : Evs.E} (h : ∀ u ∈ l, goodE u) (he : goodE e) : ∀ u ∈ Evs.putO l e, goodE u := by
  intro u hu
  unfold Evs.putO at hu
  split at hu
  · rcases Evs.putL_mem hu with h1 | rfl
    · exact h u h1
    · exact he
  · simp at hu
theorem set_good {l : List Evs.E} {k : Nat} {e : Evs.E} (h : ∀ u ∈ l, goodE u) (he : goodE e) : ∀ u ∈ l.set k e, goodE u := by
  intro u hu
  rcases List.mem_or_eq_of_mem_set hu with h1 | rfl
  · exact h u h1
  · exact he
theorem getD_good {l : List Evs.E} {k : Nat} (h : ∀ u ∈ l, goodE u) (hk : k < l.length) : goodE (l.getD k Evs.E0) := h _ (by simp [List.getD, hk])

/-- under way: the reader, a slice of the call's own, all else as it was -/
structure Ls (w W : World) (b q g c : Nat) (l : List Evs.E) : Prop where
  rd : Rd W b q
  own : Evs.XO W w.heap.size g c l
  gr : w.grownBy W (some b)
  bw : b < w.heap.size
  good : ∀ u ∈ l, goodE u
theorem Ls.wg {w W : World} {b q g c : Nat} {l : List Evs.E} (h : Ls w W b q g c l) : w.heap.size ≤ g ∧ g < W.heap.size ∧ l.length ≤ c := ⟨h.own.own.1, h.own.own.2.1.1, h.own.cap⟩
theorem Ls.next {w W W' : World} {b q q' g c : Nat} {l : List Evs.E} (h : Ls w W b q g c l) (hg : W.grownBy W' (some b)) (hr : Rd W' b q') : Ls w W' b q' g c l :=
  ⟨hr, h.own.kept hg (by have := h.bw; have := h.wg; simp; omega), grown_trans h.gr hg, h.bw, h.good⟩
theorem Ls.below {w W W' : World} {b q g c : Nat} {l : List Evs.E} (h : Ls w W b q g c l) (hb : Below W.heap.size W W') : Ls w W' b q g c l :=
  h.next (grown_of_below hb _) (h.rd.kept (grown_of_below hb none) (by simp))
theorem Ls.put {w W W' : World} {b q g c g' c' : Nat} {l l' : List Evs.E} (h : Ls w W b q g c l) (hb : Below W.heap.size W W') (hx : Evs.XO W' W.heap.size g' c' l') (hg : ∀ u ∈ l', goodE u) : Ls w W' b q g' c' l' :=
  ⟨(h.below hb).rd, XO.low hx h.gr.size, (h.below hb).gr, h.bw, hg⟩
theorem Ls.pick {w W : World} {b q g c : Nat} {l : List Evs.E} (h : Ls w W b q g c l) (hq : q ≤ 1000000000) (n : Int) :
    Calls Try.prog 27 #[.pointer (some ⟨b, 0, none⟩), .int .i64 n] W fun e W' => ∃ r, e = .returned (.int .i64 r) ∧ 0 ≤ r ∧ (r < n ∨ r = 0) ∧ Ls w W' b (q + 1) g c l := by
  refine (Draw.pick n b q W h.rd hq).mono ?_
  rintro e W1 ⟨r, rfl, r0, r1, hR1, hg1⟩
  exact ⟨r, rfl, r0, r1, h.next hg1 hR1⟩
theorem below_alloc (W : World) (o : Obj) : Below W.heap.size W (W.alloc o) := (Below.refl _ _).alloc (Nat.le_refl _) _
theorem below_alloc_set (W : World) (o : Obj) (k : Nat) (u : Value) : Below W.heap.size W ((W.alloc o).setCell ⟨W.heap.size, k, none⟩ u) := ((Below.refl _ _).alloc (Nat.le_refl _) _).setCell (p := ⟨W.heap.size, k, none⟩) (Nat.le_refl _) _

theorem below_alloc2 (W : World) (o o' : Obj) : Below W.heap.size W ((W.alloc o).alloc o') := ((Below.refl _ _).alloc (Nat.le_refl _) _).alloc (by simp) _
def isN (z : Int) : Prop := 0 ≤ z ∧ z ≤ 24
theorem n1 : ∀ z ∈ ([0, 2, 4, 8, 24] : List Int), isN z := by
  intro z hz
  simp only [List.mem_cons, List.not_mem_nil, or_false] at hz
  unfold isN
  omega

theorem qm1 : isQ (-1) := by unfold isQ; omega
theorem wA : isW9 ⟨#[65]⟩ := by unfold isW9; decide
/-- what is handed out -/
def LsOut (w w' : World) (b p : Nat) (v : Value) : Prop := ∃ (q : Nat) (l : List Evs.E), l.length ≤ 25 ∧ Evs.EN w.heap.size w' v l ∧ (∀ u ∈ l, goodE u) ∧ Rd w' b q ∧ p ≤ q ∧ q ≤ p + 130 ∧ w.grownBy w' (some b)
theorem Ls.out {w W : World} {b p q g c : Nat} {l : List Evs.E} (h : Ls w W b q g c l) (hl : l.length ≤ 25) (h0 : p ≤ q) (h1 : q ≤ p + 130) {n : Nat} (hn : n = l.length) : LsOut w W b p (.slice (some ⟨g, 0, none⟩) n c) := by
  subst hn
  exact ⟨q, l, hl, h.own.en, h.good, h.rd, h0, h1, h.gr⟩
theorem Ls.outQ {w W : World} {b p q g c : Nat} {l : List Evs.E} (h : Ls w W b q g c l) (hl : l.length ≤ 25) (h0 : p ≤ q) (h1 : q ≤ p + 130) {k : Nat} (hk : k < l.length) : LsOut w (W.setCell ⟨g, k * 3 + 2, none⟩ (.int .i64 (-1))) b p (.slice (some ⟨g, 0, none⟩) l.length c) := by
  have hb := h.bw
  obtain ⟨y1, y2, y3⟩ := h.wg
  have hg := grow_set W g (k * 3 + 2) (.int .i64 (-1))
  have gd := getD_good h.good hk
  refine ⟨q, _, by rw [List.length_set]; exact hl, .inr ⟨g, c, by rw [List.length_set], ⟨y1, by rw [List.length_set]; exact y3⟩, h.own.own.2.setQ hk (-1)⟩, set_good h.good ⟨gd.1, gd.2.1, qm1⟩, h.rd.kept hg (fun j hj => by cases hj; omega), h0, h1, ?_⟩
  have hw := h.gr
  exact ⟨hg.os.trans hw.os, hg.tape.trans hw.tape, hg.output.trans hw.output, Nat.le_trans hw.size hg.size, fun j hj hne => (hg.block j (Nat.lt_of_lt_of_le hj hw.size) (by simp; omega)).trans (hw.block j hj hne)⟩
theorem Ls.outA {w W : World} {b p q g c : Nat} {l : List Evs.E} (h : Ls w W b q g c l) (hl : l.length ≤ 25) (h0 : p ≤ q) (h1 : q ≤ p + 130) {k : Nat} (hk : k < l.length) : LsOut w (W.setCell ⟨g, k * 3, none⟩ (.string ⟨#[65]⟩)) b p (.slice (some ⟨g, 0, none⟩) l.length c) := by
  have hb := h.bw
  obtain ⟨y1, y2, y3⟩ := h.wg
  have hg := grow_set W g (k * 3) (.string ⟨#[65]⟩)
  have gd := getD_good h.good hk
  refine ⟨q, _, by rw [List.length_set]; exact hl, .inr ⟨g, c, by rw [List.length_set], ⟨y1, by rw [List.length_set]; exact y3⟩, h.own.own.2.setA hk ⟨#[65]⟩⟩, set_good h.good ⟨wA, gd.2.1, gd.2.2⟩, h.rd.kept hg (fun j hj => by cases hj; omega), h0, h1, ?_⟩
  have hw := h.gr
  exact ⟨hg.os.trans hw.os, hg.tape.trans hw.tape, hg.output.trans hw.output, Nat.le_trans hw.size hg.size, fun j hj hne => (hg.block j (Nat.lt_of_lt_of_le hj hw.size) (by simp; omega)).trans (hw.block j hj hne)⟩
theorem Ls.outX {w W W' : World} {b p q g c g' c' : Nat} {l : List Evs.E} {e : Evs.E} (h : Ls w W b q g c l) (hl : l.length ≤ 24) (h0 : p ≤ q) (h1 : q ≤ p + 130) (hx : Evs.XO W' w.heap.size g' c' (l ++ [e])) (hg : W.grownBy W' (some g)) (he : goodE e) {n : Nat} (hn : n = l.length + 1) : LsOut w W' b p (.slice (some ⟨g', 0, none⟩) n c') := by
  have hb := h.bw
  obtain ⟨y1, y2, y3⟩ := h.wg
  have hxe := hx.en
  have e1 : (l ++ [e]).length = n := by simp [hn]
  rw [e1] at hxe
  refine ⟨q, _, by rw [e1]; omega, hxe, fun u hu => ?_, h.rd.kept hg (fun j hj => by cases hj; omega), h0, h1, ?_⟩
  · rcases List.mem_append.1 hu with h2 | h2
    · exact h.good u h2
    · rw [List.mem_singleton.1 h2]; exact he
  · have hw := h.gr
    exact ⟨hg.os.trans hw.os, hg.tape.trans hw.tape, hg.output.trans hw.output, Nat.le_trans hw.size hg.size, fun j hj hne => (hg.block j (Nat.lt_of_lt_of_le hj hw.size) (by simp; omega)).trans (hw.block j hj hne)⟩

set_option maxHeartbeats 4000000 in
set_option maxRecDepth 20000 in
/-- l3List: at most 25 -/
theorem list3 (b p : Nat) (w : World) (hR : Rd w b p) (hp : p ≤ 50000000) :
    Calls Try.prog 35 #[.pointer (some ⟨b, 0, none⟩)] w fun e w' => ∃ v, e = .returned v ∧ LsOut w w' b p v := by
  have hbw := hR.lt
  have L0 : Hid (Ls w (w.alloc (.cells #[] 31)) b p w.heap.size 0 []) := Uses.hide ⟨hR.kept (World.grownBy_alloc w _ none) (by simp), Evs.XO.made w w.heap.size (Nat.le_refl _) _ rfl, World.grownBy_alloc w _ _, hbw, fun u hu => by simp at hu⟩
  have hz0 : (w.alloc (.cells #[] 31)).heap.size = w.heap.size + 1 := by simp
  clear hR
  go_enter Try.func35, Try.ntmps35
  go_wp2_with fail
  rw [← hz0]
  refine (num isN b p (w.alloc (.cells #[] 31)).heap.size 0 5 5 _ ((Uses.unhide L0).below (below_alloc _ _)).rd (by omega) (by omega) (by omega) (by omega) (new_nums isN _ [0, 2, 4, 8, 24] _ n1)).mono ?_
  rintro e W1 ⟨z, rfl, hz, hR1, hg1⟩
  have L1 := Uses.hide (((Uses.unhide L0).below (below_alloc _ _)).next hg1 hR1)
  obtain ⟨z0, z1⟩ := hz
  rw [hz0]
  clear hg1 hR1 L0 hz0
  go_wp2_with fail
  go_loopw [3, 5] (fun o i wr => ∃ (k g c q : Nat) (l : List Evs.E), (k : Int) ≤ z ∧ i = .int .i64 (k : Int) ∧ o = .slice (some ⟨g, 0, none⟩) l.length c ∧ l.length ≤ k ∧ Hid (Ls w wr b q g c l) ∧ p ≤ q ∧ q ≤ p + 1 + 5 * k) (fun _ i _ => (z - intOf i).toNat)
  case atStart => exact ⟨0, w.heap.size, 0, p + 1, [], by omega, rfl, rfl, by simp, L1, by omega, by omega⟩
  case round =>
    obtain ⟨k, g, c, q, l, hk, rfl, rfl, hl, hL, hq0, hq1⟩ := hrel
    clear L1
    by_cases hlt : (k : Int) < z
    · go_wp2_with fail
      refine (drawn b q wr (Uses.unhide hL).rd (by omega)).mono ?_
      rintro e W2 ⟨⟨s, m, n⟩, q2, rfl, x1, x2, x3, hR2, hq2, hq3, hg2⟩
      have L2 := Uses.hide ((Uses.unhide hL).next hg2 hR2)
      clear hR2 hg2 hL
      by_cases h24 : z = 24
      · subst h24
        have hcv := Evs.conv1 (W2.alloc (.cells #[.string s, .string m, .int .i64 n] 31)) (97 + (k : Int)) (by omega) (by omega)
        rw [World.size_alloc] at hcv
        go_wp2_with fail
        have xs : isW9 ((⟨#[113]⟩ : ByteArray) ++ ⟨#[97 + UInt8.ofNat k]⟩) := by unfold isW9; rw [ByteArray.size_append]; show 1 + 1 ≤ 9; omega
        generalize ((⟨#[113]⟩ : ByteArray) ++ ⟨#[97 + UInt8.ofNat k]⟩) = S at *
        have hX := Uses.hide (Evs.usePutX (.slice (some ⟨g, 0, none⟩) l.length c) l (S, m, n) ((W2.alloc (.cells #[.string S, .string m, .int .i64 n] 31)).alloc (.cells #[.int .u8 (97 + (k : Int))] 5)) ((Uses.unhide L2).below (below_alloc2 _ _ _)).own.en.er (by omega) (fun u hu => ((Uses.unhide L2).good u hu).size) (goodE.size (u := (S, m, n)) ⟨xs, x2, x3⟩).1 (goodE.size (u := (S, m, n)) ⟨xs, x2, x3⟩).2 ((Uses.unhide L2).own.en.cap))
        have hpl := putO_len (l := l) (e := (S, m, n))
        have hpg := Uses.hide (putO_good (Uses.unhide L2).good (e := (S, m, n)) ⟨xs, x2, x3⟩)
        generalize Evs.putO l (S, m, n) = O at *
        generalize Evs.putD l (S, m, n) = D at *
        refine (Uses.unhide hX).mono ?_
        rintro e W4 ⟨v, rfl, _, hb4, h0⟩
        have L4 := Uses.hide ((Uses.unhide L2).below (Draw.below_trans (below_alloc2 _ _ _) hb4))
        by_cases hD : D = 0
        · obtain ⟨g', c', rfl, hxo⟩ := h0 hD
          have L5 := Uses.hide (((Uses.unhide L2).below (below_alloc2 _ _ _)).put hb4 hxo (Uses.unhide hpg))
          subst hD
          clear hX hpg L2 hcv L4 h0 hxo hb4
          go_wp2
          exact ⟨⟨k + 1, g', c', q2, O, by omega, by go_num, rfl, by omega, L5, by omega, by omega⟩, by simp [intOf]; omega⟩
        · have hDb : (D == 0) = false := by simpa using hD
          clear hX hpg L2 hcv h0 hb4
          go_wp2
          exact ⟨⟨k + 1, g, c, q2, l, by omega, by go_num, rfl, by omega, L4, by omega, by omega⟩, by simp [intOf]; omega⟩
      · have hb24 : (z == 24) = false := by simpa using h24
        have hX := Uses.hide (Evs.usePutX (.slice (some ⟨g, 0, none⟩) l.length c) l (s, m, n) (W2.alloc (.cells #[.string s, .string m, .int .i64 n] 31)) ((Uses.unhide L2).below (below_alloc _ _)).own.en.er (by omega) (fun u hu => ((Uses.unhide L2).good u hu).size) (goodE.size (u := (s, m, n)) ⟨x1, x2, x3⟩).1 (goodE.size (u := (s, m, n)) ⟨x1, x2, x3⟩).2 ((Uses.unhide L2).own.en.cap))
        have hpl := putO_len (l := l) (e := (s, m, n))
        have hpg := Uses.hide (putO_good (Uses.unhide L2).good (e := (s, m, n)) ⟨x1, x2, x3⟩)
        generalize Evs.putO l (s, m, n) = O at *
        generalize Evs.putD l (s, m, n) = D at *
        go_wp2_with fail
        refine (Uses.unhide hX).mono ?_
        rintro e W4 ⟨v, rfl, _, hb4, h0⟩
        have L4 := Uses.hide ((Uses.unhide L2).below (Draw.below_trans (below_alloc _ _) hb4))
        by_cases hD : D = 0
        · obtain ⟨g', c', rfl, hxo⟩ := h0 hD
          have L5 := Uses.hide (((Uses.unhide L2).below (below_alloc _ _)).put hb4 hxo (Uses.unhide hpg))
          subst hD
          clear hX hpg L2 L4 h0 hxo hb4
          go_wp2
          exact ⟨⟨k + 1, g', c', q2, O, by omega, by go_num, rfl, by omega, L5, by omega, by omega⟩, by simp [intOf]; omega⟩
        · have hDb : (D == 0) = false := by simpa using hD
          clear hX hpg L2 h0 hb4
          go_wp2
          exact ⟨⟨k + 1, g, c, q2, l, by omega, by go_num, rfl, by omega, L4, by omega, by omega⟩, by simp [intOf]; omega⟩
    · obtain rfl : z = k := by omega
      obtain ⟨y1, y2, y3⟩ := (Uses.unhide hL).wg
      by_cases h0 : l.length = 0
      · have h0' : (l.length : Int) = 0 := by omega
        have hL0 : Hid (l.length = 0) := Uses.hide h0
        rw [h0]
        clear h0 h0'
        go_wp2
        go_ret
        exact ⟨_, rfl, (Uses.unhide hL).out (by omega) (by omega) (by omega) (Uses.unhide hL0).symm⟩
      have hp0 : (0 : Int) < (l.length : Int) := by omega
      go_wp2_with fail
      refine ((Uses.unhide hL).pick (by omega) 8).mono ?_
      rintro e W2 ⟨r, rfl, r0, _, hL2⟩
      have L2 := Uses.hide hL2
      clear hL hL2
      by_cases e0 : r = 0
      · subst e0
        go_wp2_with fail
        refine ((Uses.unhide L2).pick (by omega) _).mono ?_
        rintro e W3 ⟨r', rfl, r0', r1', hL3⟩
        obtain ⟨j, rfl⟩ := Int.eq_ofNat_of_zero_le r0'
        have hj : j < l.length := by omega
        have L3 := Uses.hide hL3
        clear L2 hL3 r1' r0'
        go_wp2_with fail
        refine ((Uses.unhide L3).pick (by omega) 3).mono ?_
        rintro e W4 ⟨r2, rfl, r02, r12, hL4⟩
        have L4 := Uses.hide hL4
        obtain ⟨y1, y2, y3⟩ := hL4.wg
        obtain ⟨c0, c1, c2⟩ := hL4.own.own.2.1.2 j hj
        have f0 := hL4.own.own.2.2 (j * 3)
        have f2 := hL4.own.own.2.2 (j * 3 + 2)
        rw [Nat.zero_add] at c0 c1 c2
        have gd := getD_good hL4.good hj
        have i1 : (0 : Int) ≤ (j : Int) := by omega
        have i2 : (j : Int) < (l.length : Int) := by omega
        clear L3 hL4
        generalize l.getD j Evs.E0 = x at *
        obtain ⟨s, m, n⟩ := x
        simp only at c0 c1 c2
        by_cases e1 : r2 = 0
        · subst e1
          go_wp2_with (first | (at_builtin; refine Evs.listAppE _ rfl _ _ rfl w.heap.size g c l.length l [(s, m, n)] _ rfl rfl ((Uses.unhide L4).below (below_alloc _ _)).own rfl (Evs.srcNew _ s m n) (by simp; omega) (by simp; omega) ?_; intro g' c' W6 hx6 hg6 hat6 hlt6; have X6 := Uses.hide hx6; have G6 := Uses.hide hg6; clear hx6 hg6 hat6 hlt6) | fail)
          go_ret
          exact ⟨_, rfl, ((Uses.unhide L4).below (below_alloc _ _)).outX (by omega) (by omega) (by omega) (Uses.unhide X6) (Uses.unhide G6) gd rfl⟩
        by_cases e2 : r2 = 1
        · subst e2
          go_wp2
          go_ret
          exact ⟨_, rfl, (Uses.unhide L4).outQ (by omega) (by omega) (by omega) hj⟩
        · have b1 : (r2 == 0) = false := by simpa using e1
          have b2 : (r2 == 1) = false := by simpa using e2
          go_wp2
          go_ret
          exact ⟨_, rfl, (Uses.unhide L4).outA (by omega) (by omega) (by omega) hj⟩
      · have b0 : (r == 0) = false := by simpa using e0
        go_wp2
        go_ret
        exact ⟨_, rfl, (Uses.unhide L2).out (by omega) (by omega) (by omega) rfl⟩
end Go.Proofs.Ythhkjbhkginecaa.Draw
