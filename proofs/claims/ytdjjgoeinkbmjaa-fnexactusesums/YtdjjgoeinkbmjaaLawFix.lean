/-
  The law on UseFix: impl.UseFix answers as spec.UseFix, writes into no argument, and its answer owns its memory.
-/
import Derived.Test.YtdjjgoeinkbmjaaPutS
namespace Go.Proofs.Ytdjjgoeinkbmjaa.Evs
set_option linter.unusedVariables false
open Go.RowKit Go.Maps MapM

/-- a slice of the call's own lies apart from what is written -/
theorem EN.keptG {B : Nat} {W W' : World} {v : Value} {l : List E} {r : Option Nat} (h : EN B W v l) (hg : W.grownBy W' r) (hr : ∀ b, r = some b → b < B) : EN B W' v l := by
  rcases h with h | ⟨b, cap, rfl, h1, hc⟩
  · exact .inl h
  · refine .inr ⟨b, cap, rfl, h1, ⟨Nat.lt_of_lt_of_le hc.1.1 hg.size, fun i hi => ?_⟩, fun j => ?_⟩
    · have hblk : W'.heap[b]? = W.heap[b]? := hg.block b hc.1.1 (fun e => by have := hr b e.symm; omega)
      have key : ∀ o : Nat, W'.cell? ⟨b, o, none⟩ = W.cell? ⟨b, o, none⟩ := fun o => World.cell?_of_block hblk
      obtain ⟨c0, c1, c2⟩ := hc.1.2 i hi
      exact ⟨(key _).trans c0, (key _).trans c1, (key _).trans c2⟩
    · have hblk : W'.heap[b]? = W.heap[b]? := hg.block b hc.1.1 (fun e => by have := hr b e.symm; omega)
      have key : W'.frozen? ⟨b, j, none⟩ = W.frozen? ⟨b, j, none⟩ := World.frozen?_of_block hblk
      exact key.trans (hc.2 j)
/-- what came in lies below what the call has laid -/
theorem ER.keptG {n : Nat} {W W0 W' : World} {v : Value} {l : List E} (h : ER W0 v l) (h0 : Below W0.heap.size W0 W) (hg : W.grownBy W' (some n)) (hn : W0.heap.size ≤ n) : Below W0.heap.size W0 W' :=
  h0.grown hg h0.size (fun j hj => by cases hj; exact hn)
theorem EN.block {B : Nat} {W : World} {v : Value} {l : List E} (h : EN B W v l) (hl : l ≠ []) : ∃ b, v.ownBlock = some b ∧ B ≤ b ∧ b < W.heap.size := by
  rcases h with ⟨h, _⟩ | ⟨b, cap, rfl, h1, hc⟩
  · exact absurd h hl
  · exact ⟨b, rfl, h1.1, hc.1.1⟩

set_option maxHeartbeats 2000000 in
theorem lawFix (v : Value) (l : List E) (id : ByteArray) (q : Int) (w : World) (h : ER w v l) (hl : l.length ≤ maxLen) (hs : ∀ u ∈ l, u.1.size ≤ maxLen ∧ u.2.1.size ≤ maxLen) (hid : id.size ≤ maxLen) :
    Calls Try.prog 7 #[v, .string id, .int .i64 q] w fun e w' => e = .returned (.bool true) ∧ Below w.heap.size w w' := by
  have H := hide h
  have HS := hide hs
  clear h hs
  have hid' := hid
  unfold maxLen at hid
  by_cases hm1 : (1048576 : Int) < id.size
  · go_enter Try.func7, Try.ntmps7
    go_wp2
    go_ret
    exact ⟨rfl, Below.refl _ _⟩
  go_enter Try.func7, Try.ntmps7
  go_wp2_with (fail)
  refine (szEvs v l 1048576 _ (unhide H) hl (unhide HS) (by omega) (by omega)).mono ?_
  rintro e w1 ⟨r, rfl, r1, r3, r2, hb1⟩
  by_cases hr : r < 0
  · have B1 := hide hb1
    clear hb1
    go_wp2
    go_ret
    exact ⟨rfl, unhide B1⟩
  have hl2 : l.length ≤ 1048576 := by have := r2 (by omega); omega
  have H0 := H
  have B1 := hide hb1
  clear hb1 r2 hl H
  have hO : (fixO l id q).length ≤ 1048576 := by
    unfold fixO
    split
    · rw [fixL_len]; exact hl2
    · simp
  go_wp2_with (fail)
  refine (toEvs v l _ ((unhide H0).kept (unhide B1)) hl2).mono ?_
  rintro e w2 ⟨v2, rfl, u2, hb2⟩
  have B2 := hide (below_trans (unhide B1) hb2)
  have U2 := hide u2.er
  clear B1 hb2 u2
  go_wp2_with (fail)
  refine (useFixS v2 l id q _ (unhide U2) hl2 (unhide HS)).mono ?_
  rintro e w3 ⟨wv, rfl, n3, hb3⟩
  have B3 := hide (below_trans (unhide B2) hb3)
  have N3 := hide n3
  clear B2 hb3 U2 n3
  go_wp2_with (fail)
  refine (toEvs v l _ ((unhide H0).kept (unhide B3)) hl2).mono ?_
  rintro e w4 ⟨v4, rfl, u4, hb4⟩
  have B4 := hide (below_trans (unhide B3) hb4)
  have C4 := hide hb4
  have U4 := hide u4
  have z3 := (unhide B3).size
  have z4 := hb4.size
  clear B3 hb4 u4
  go_wp2_with (fail)
  refine (useFixI v4 l id q _ (unhide U4).er hl2 (unhide HS) hid').mono ?_
  rintro e w5 ⟨gv, rfl, n5, hb5⟩
  have B5 := hide (below_trans (unhide B4) hb5)
  have C5 := hide (below_trans (unhide C4) hb5)
  have N5 := hide ((unhide N3).er.kept (unhide C5))
  have U5 := hide ((unhide U4).kept hb5)
  have G5 := hide n5
  have y5 : Hid (∀ b, v4.ownBlock = some b → l ≠ [] → w3.heap.size ≤ b ∧ b < w4.heap.size) := hide (fun b hb hne => by
    obtain ⟨b', h1, h2, h3⟩ := (unhide U4).block hne
    rw [h1] at hb
    simp only [Option.some.injEq] at hb
    subst hb
    exact ⟨h2, h3⟩)
  clear B4 hb5 U4 n5 C4
  have hx : (fixD l id q != fixD l id q) = false := by simp
  generalize hD : fixD l id q = D at *
  generalize hOO : fixO l id q = O at *
  have HOO := hide hOO
  have HDD := hide hD
  clear hOO hD
  go_wp2_with (fail)
  refine (eqEvs gv wv O _ (unhide G5).er (unhide N5) hO).mono ?_
  rintro e w6 ⟨rfl, hb6⟩
  have B6 := hide (below_trans (unhide B5) hb6)
  have C6 := hide (below_trans (unhide C5) hb6)
  have U6 := hide ((unhide U5).kept hb6)
  have G6 := hide ((unhide G5).kept hb6)
  clear hb6 B5 C5 U5 G5 N5
  go_wp2_with (fail)
  refine (toEvs v l _ ((unhide H0).kept (unhide B6)) hl2).mono ?_
  rintro e w7 ⟨v7, rfl, u7, hb7⟩
  have B7 := hide (below_trans (unhide B6) hb7)
  have C7 := hide (below_trans (unhide C6) hb7)
  have U7 := hide ((unhide U6).kept hb7)
  have G7 := hide ((unhide G6).kept hb7)
  have V7 := hide u7.er
  clear hb7 B6 C6 U6 G6 u7
  go_wp2_with (fail)
  refine (eqEvs v4 v7 l _ (unhide U7).er (unhide V7) hl2).mono ?_
  rintro e w8 ⟨rfl, hb8⟩
  have B8 := hide (below_trans (unhide B7) hb8)
  have C8 := hide (below_trans (unhide C7) hb8)
  have U8 := hide ((unhide U7).kept hb8)
  have G8 := hide ((unhide G7).kept hb8)
  clear hb8 B7 C7 U7 G7 V7
  go_wp2_with (fail)
  refine (markEvs _ v4 l 1 _ (unhide U8) hl2 (by omega) (by omega)).mono ?_
  rintro e w9 ⟨rfl, _, r9, hg9, hr9⟩
  have hrr : ∀ b, r9 = some b → w3.heap.size ≤ b ∧ b < w4.heap.size := fun b hb => unhide y5 b (hr9 b hb).1 (hr9 b hb).2.1
  have C9 := hide ((unhide C8).grown hg9 (unhide C8).size (fun b hb => (hrr b hb).1))
  have B9 := hide ((unhide B8).grown hg9 (unhide B8).size (fun b hb => Nat.le_trans z3 (hrr b hb).1))
  have G9 := hide ((unhide G8).keptG hg9 (fun b hb => (hrr b hb).2))
  have N9 := hide ((unhide N3).er.kept (unhide C9))
  clear hg9 hr9 hrr r9 B8 C8 G8 U8 y5
  have k9 : ¬ ((1 + 3 * l.length : Nat) : Int) < 0 := by omega
  go_wp2_with (fail)
  refine (eqEvs gv wv O _ (unhide G9).er (unhide N9) hO).mono ?_
  rintro e w10 ⟨rfl, hb10⟩
  have B10 := hide (below_trans (unhide B9) hb10)
  have C10 := hide (below_trans (unhide C9) hb10)
  have G10 := hide ((unhide G9).kept hb10)
  clear hb10 B9 C9 G9 N9
  go_wp2_with (fail)
  refine (markEvs _ gv O 1 _ (unhide G10) hO (by omega) (by omega)).mono ?_
  rintro e w11 ⟨rfl, g11, r11, hg11, hr11⟩
  have C11 := hide ((unhide C10).grown hg11 (unhide C10).size (fun b hb => Nat.le_trans z4 (hr11 b hb).2.2))
  have B11 := hide ((unhide B10).grown hg11 (unhide B10).size (fun b hb => Nat.le_trans z3 (Nat.le_trans z4 (hr11 b hb).2.2)))
  have G11 := hide g11
  clear hg11 hr11 r11 B10 C10 G10 g11
  go_wp2_with (fail)
  refine (heldEvs gv O.length 1 _ (unhide G11).er hO (by omega) (by omega)).mono ?_
  rintro e w12 ⟨rfl, hb12⟩
  have B12 := hide (below_trans (unhide B11) hb12)
  have C12 := hide (below_trans (unhide C11) hb12)
  have G12 := hide ((unhide G11).kept hb12)
  clear hb12 B11 C11 G11
  have x12 : ((1 + 3 * (O.length : Int)) != (1 + 3 * (O.length : Int))) = false := by simp
  go_wp2_with (fail)
  refine (toEvs v l _ ((unhide H0).kept (unhide B12)) hl2).mono ?_
  rintro e w13 ⟨v13, rfl, u13, hb13⟩
  have B13 := hide (below_trans (unhide B12) hb13)
  have C13 := hide (below_trans (unhide C12) hb13)
  have G13 := hide ((unhide G12).kept hb13)
  have V13 := hide u13.er
  clear hb13 B12 C12 G12 u13
  go_wp2_with (fail)
  refine (useFixI v13 l id q _ (unhide V13) hl2 (unhide HS) hid').mono ?_
  rintro e w14 ⟨hv, rfl, n14, hb14⟩
  rw [unhide HOO] at n14
  rw [unhide HDD]
  have B14 := hide (below_trans (unhide B13) hb14)
  have C14 := hide (below_trans (unhide C13) hb14)
  have G14 := hide ((unhide G13).kept hb14)
  have N14 := hide ((unhide N3).er.kept (unhide C14))
  have V14 := hide n14.er
  clear hb14 B13 C13 G13 n14 V13
  go_wp2_with (fail)
  refine (eqEvs hv wv O _ (unhide V14) (unhide N14) hO).mono ?_
  rintro e w15 ⟨rfl, hb15⟩
  have B15 := hide (below_trans (unhide B14) hb15)
  have G15 := hide ((unhide G14).kept hb15)
  clear hb15 B14 C14 G14 N14 V14
  go_wp2_with (fail)
  refine (heldEvs gv O.length 1 _ (unhide G15).er hO (by omega) (by omega)).mono ?_
  rintro e w16 ⟨rfl, hb16⟩
  have B16 := hide (below_trans (unhide B15) hb16)
  clear hb16 B15 G15
  go_wp2
  go_ret
  exact ⟨rfl, unhide B16⟩
end Go.Proofs.Ytdjjgoeinkbmjaa.Evs
