/-
  The law on UsePut: impl.UsePut answers as spec.UsePut, writes into no argument, and its answer owns its memory.
-/
import Derived.Test.YtdjjgoeinkbmjaaPutS3
import Derived.Test.YtdjjgoeinkbmjaaLawFix
namespace Go.Proofs.Ytdjjgoeinkbmjaa.Evs
set_option linter.unusedVariables false
open Go.RowKit Go.Maps MapM

set_option maxHeartbeats 2000000 in
theorem lawPut (v : Value) (l : List E) (s m : ByteArray) (q : Int) (w : World) (h : ER w v l) (hl : l.length ≤ maxLen) (hs : ∀ u ∈ l, u.1.size ≤ maxLen ∧ u.2.1.size ≤ maxLen) (h1 : s.size ≤ maxLen) (h2 : m.size ≤ maxLen) :
    Calls Try.prog 6 #[v, .agg #[.string s, .string m, .int .i64 q]] w fun e w' => e = .returned (.bool true) ∧ Below w.heap.size w w' := by
  obtain ⟨w0, hw0⟩ : ∃ w0, w.alloc (.cells #[.string s, .string m, .int .i64 q] 50) = w0 := ⟨_, rfl⟩
  have hb0 : Below w.heap.size w w0 := by rw [← hw0]; exact (Below.refl _ _).alloc (Nat.le_refl _) _
  have H := hide (h.kept hb0)
  have HS := hide hs
  have BW := hide hb0
  have zb : w.heap.size < w0.heap.size := by rw [← hw0]; simp
  have d0 : w0.cell? ⟨w.heap.size, 0, none⟩ = some (.string s) := by rw [← hw0]; simp
  have d1 : w0.cell? ⟨w.heap.size, 1, none⟩ = some (.string m) := by rw [← hw0]; simp
  have d2 : w0.cell? ⟨w.heap.size, 2, none⟩ = some (.int .i64 q) := by rw [← hw0]; simp
  have HD : Hid (∀ W, Below w0.heap.size w0 W → W.cell? ⟨w.heap.size, 0, none⟩ = some (.string s) ∧ W.cell? ⟨w.heap.size, 1, none⟩ = some (.string m) ∧ W.cell? ⟨w.heap.size, 2, none⟩ = some (.int .i64 q)) := hide (fun W hb => ⟨(hb.cell (p := ⟨w.heap.size, 0, none⟩) zb).trans d0, (hb.cell (p := ⟨w.heap.size, 1, none⟩) zb).trans d1, (hb.cell (p := ⟨w.heap.size, 2, none⟩) zb).trans d2⟩)
  clear h hs hb0 d0 d1 d2
  go_enter Try.func6, Try.ntmps6
  go_wp2_with (fail)
  clear hw0
  refine (szEvs v l 1048576 _ (unhide H) hl (unhide HS) (by omega) (by omega)).mono ?_
  rintro e w1 ⟨r, rfl, r1, r3, r2, hb1⟩
  by_cases hr : r < 0
  · have B1 := hide (below_trans (unhide BW) hb1)
    clear hb1
    go_wp2
    go_ret
    exact ⟨rfl, unhide B1⟩
  have hl2 : l.length ≤ 1048576 := by have := r2 (by omega); omega
  have H0 := H
  have B1 := hide hb1
  clear hb1 r2 hl H
  obtain ⟨e0, e1, e2⟩ := unhide HD _ (unhide B1)
  go_wp2_with (fail)
  refine (szEv s m q r _ h1 h2 (by omega) (by omega)).mono ?_
  rintro e w1' ⟨r', rfl, r1', r3', hb1'⟩
  have B1' := hide (below_trans (unhide B1) hb1')
  clear hb1' B1 e0 e1 e2
  by_cases hr' : r' < 0
  · have B2 := hide (below_trans (unhide BW) (unhide B1'))
    go_wp2
    go_ret
    exact ⟨rfl, unhide B2⟩
  have hO : (putO l (s, m, q)).length ≤ 1048576 := by
    unfold putO
    split
    · rename_i hok
      have h20 := okB_len hok
      have := putL_len (l := l) (e := (s, m, q))
      omega
    · simp
  obtain ⟨e0, e1, e2⟩ := unhide HD _ (unhide B1')
  go_wp2_with (fail)
  go_region_held3 (fun ww => ww.cell? ⟨w.heap.size, 0, none⟩ = some (.string s) ∧ ww.cell? ⟨w.heap.size, 1, none⟩ = some (.string m) ∧ ww.cell? ⟨w.heap.size, 2, none⟩ = some (.int .i64 q)) (go_keep)
    (first | (go_at_call 23; refine (toEvs v l _ ((unhide H0).kept (below_drewN' (unhide B1') 1)) hl2).mono ?_; rintro e w2 ⟨v2, rfl, u2, hb2⟩; have B2 : Below w0.heap.size w0 w2 := below_trans (below_drewN' (unhide B1') 1) hb2; obtain ⟨x0, x1, x2⟩ := unhide HD _ B2) | (go_at_call 28; refine (toEv s m q _).mono ?_; rintro e w2' ⟨rfl, hb2'⟩; have B2' : Below w0.heap.size w0 w2' := below_trans B2 hb2'; have U2' := u2.kept hb2'; obtain ⟨y0, y1, y2⟩ := unhide HD _ B2') | (go_at_call 27; refine (usePutS v2 l (s, m, q) _ U2'.er hl2 (unhide HS) h1 h2 U2'.cap).mono ?_; rintro e w3 ⟨wv, rfl, n3, hb3⟩; have B3' : Below w0.heap.size w0 w3 := below_trans B2' hb3; obtain ⟨t0, t1, t2⟩ := unhide HD _ B3'))
  have B3 := hide B3'
  have N3 := hide n3
  clear B3' B2 B2' U2' u2 hb2 hb2' hb3 n3 x0 x1 x2 y0 y1 y2 t0 t1 t2 e0 e1 e2 B1'
  go_wp2_with (fail)
  refine (toEvs v l _ ((unhide H0).kept (unhide B3)) hl2).mono ?_
  rintro e w4 ⟨v4, rfl, u4, hb4⟩
  have B4 := hide (below_trans (unhide B3) hb4)
  have C4 := hide hb4
  have U4 := hide u4
  have z3 := (unhide B3).size
  have z4 := hb4.size
  clear B3 hb4 u4
  obtain ⟨e0, e1, e2⟩ := unhide HD _ (unhide B4)
  go_wp2_with (fail)
  refine (toEv s m q _).mono ?_
  rintro e w4' ⟨rfl, hb4'⟩
  have B4' := hide (below_trans (unhide B4) hb4')
  have C4' := hide (below_trans (unhide C4) hb4')
  have U4' := hide ((unhide U4).kept hb4')
  have z4' := hb4'.size
  clear hb4' e0 e1 e2
  go_wp2_with (fail)
  refine (usePutI v4 l (s, m, q) _ (unhide U4').er hl2 (unhide HS) h1 h2).mono ?_
  rintro e w5 ⟨gv, rfl, n5', hb5⟩
  have n5 := n5'.low z4'
  clear n5'
  have B5 := hide (below_trans (unhide B4') hb5)
  have C5 := hide (below_trans (unhide C4') hb5)
  have N5 := hide ((unhide N3).er.kept (unhide C5))
  have U5 := hide ((unhide U4').kept hb5)
  have G5 := hide n5
  have y5 : Hid (∀ b, v4.ownBlock = some b → l ≠ [] → w3.heap.size ≤ b ∧ b < w4.heap.size) := hide (fun b hb hne => by
    obtain ⟨b', h1, h2, h3⟩ := (unhide U4).block hne
    rw [h1] at hb
    simp only [Option.some.injEq] at hb
    subst hb
    exact ⟨h2, h3⟩)
  clear B4 hb5 U4 n5 C4 B4' C4' U4' z4'
  have hx : (putD l (s, m, q) != putD l (s, m, q)) = false := by simp
  generalize hD : putD l (s, m, q) = D at *
  generalize hOO : putO l (s, m, q) = O at *
  have HOO := hide hOO
  have HDD := hide hD
  clear hOO hD
  go_wp2_with (fail)
  refine (eqEvs gv wv O _ (unhide G5).er (unhide N5) hO).mono ?_
  rintro e w6 ⟨rfl, hb6⟩
  have B6 := hide (below_trans (unhide B5) hb6)
  have C6 := hide (below_trans (unhide C5) hb6)
  have U6 := hide ((unhide U5).kept hb6)
  have G6 := hide ((unhide G5).kept hb6)
  clear hb6 B5 C5 U5 G5 N5
  go_wp2_with (fail)
  refine (toEvs v l _ ((unhide H0).kept (unhide B6)) hl2).mono ?_
  rintro e w7 ⟨v7, rfl, u7, hb7⟩
  have B7 := hide (below_trans (unhide B6) hb7)
  have C7 := hide (below_trans (unhide C6) hb7)
  have U7 := hide ((unhide U6).kept hb7)
  have G7 := hide ((unhide G6).kept hb7)
  have V7 := hide u7.er
  clear hb7 B6 C6 U6 G6 u7
  go_wp2_with (fail)
  refine (eqEvs v4 v7 l _ (unhide U7).er (unhide V7) hl2).mono ?_
  rintro e w8 ⟨rfl, hb8⟩
  have B8 := hide (below_trans (unhide B7) hb8)
  have C8 := hide (below_trans (unhide C7) hb8)
  have U8 := hide ((unhide U7).kept hb8)
  have G8 := hide ((unhide G7).kept hb8)
  clear hb8 B7 C7 U7 G7 V7
  go_wp2_with (fail)
  refine (markEvs _ v4 l 1 _ (unhide U8) hl2 (by omega) (by omega)).mono ?_
  rintro e w9 ⟨rfl, _, r9, hg9, hr9⟩
  have hrr : ∀ b, r9 = some b → w3.heap.size ≤ b ∧ b < w4.heap.size := fun b hb => unhide y5 b (hr9 b hb).1 (hr9 b hb).2.1
  have C9 := hide ((unhide C8).grown hg9 (unhide C8).size (fun b hb => (hrr b hb).1))
  have B9 := hide ((unhide B8).grown hg9 (unhide B8).size (fun b hb => Nat.le_trans z3 (hrr b hb).1))
  have G9 := hide ((unhide G8).keptG hg9 (fun b hb => (hrr b hb).2))
  have N9 := hide ((unhide N3).er.kept (unhide C9))
  clear hg9 hr9 hrr r9 B8 C8 G8 U8 y5
  have k9 : ¬ ((1 + 3 * l.length : Nat) : Int) < 0 := by omega
  go_wp2_with (fail)
  refine (eqEvs gv wv O _ (unhide G9).er (unhide N9) hO).mono ?_
  rintro e w10 ⟨rfl, hb10⟩
  have B10 := hide (below_trans (unhide B9) hb10)
  have C10 := hide (below_trans (unhide C9) hb10)
  have G10 := hide ((unhide G9).kept hb10)
  clear hb10 B9 C9 G9 N9
  go_wp2_with (fail)
  refine (markEvs _ gv O 1 _ (unhide G10) hO (by omega) (by omega)).mono ?_
  rintro e w11 ⟨rfl, g11, r11, hg11, hr11⟩
  have C11 := hide ((unhide C10).grown hg11 (unhide C10).size (fun b hb => Nat.le_trans z4 (hr11 b hb).2.2))
  have B11 := hide ((unhide B10).grown hg11 (unhide B10).size (fun b hb => Nat.le_trans z3 (Nat.le_trans z4 (hr11 b hb).2.2)))
  have G11 := hide g11
  clear hg11 hr11 r11 B10 C10 G10 g11
  go_wp2_with (fail)
  refine (heldEvs gv O.length 1 _ (unhide G11).er hO (by omega) (by omega)).mono ?_
  rintro e w12 ⟨rfl, hb12⟩
  have B12 := hide (below_trans (unhide B11) hb12)
  have C12 := hide (below_trans (unhide C11) hb12)
  have G12 := hide ((unhide G11).kept hb12)
  clear hb12 B11 C11 G11
  have x12 : ((1 + 3 * (O.length : Int)) != (1 + 3 * (O.length : Int))) = false := by simp
  obtain ⟨e0, e1, e2⟩ := unhide HD _ (unhide B12)
  go_wp2_with (fail)
  go_region_held3 (fun ww => ww.cell? ⟨w.heap.size, 0, none⟩ = some (.string s) ∧ ww.cell? ⟨w.heap.size, 1, none⟩ = some (.string m) ∧ ww.cell? ⟨w.heap.size, 2, none⟩ = some (.int .i64 q)) (go_keep)
    (first | (go_at_call 23; refine (toEvs v l _ ((unhide H0).kept (below_drewN' (unhide B12) 1)) hl2).mono ?_; rintro e w13 ⟨v13, rfl, u13, hb13⟩; have B13 : Below w0.heap.size w0 w13 := below_trans (below_drewN' (unhide B12) 1) hb13; have C13 : Below w3.heap.size w3 w13 := below_trans (below_drewN' (unhide C12) 1) hb13; have G13 := (unhide G12).kept (below_of_drew hb13); obtain ⟨x0, x1, x2⟩ := unhide HD _ B13) | (go_at_call 28; refine (toEv s m q _).mono ?_; rintro e w13' ⟨rfl, hb13'⟩; have B13' : Below w0.heap.size w0 w13' := below_trans B13 hb13'; have C13' := below_trans C13 hb13'; have G13' := G13.kept hb13'; have U13' := u13.kept hb13'; obtain ⟨y0, y1, y2⟩ := unhide HD _ B13') | (go_at_call 29; refine (usePutI v13 l (s, m, q) _ U13'.er hl2 (unhide HS) h1 h2).mono ?_; rintro e w14 ⟨hv, rfl, n14, hb14⟩; have B14' : Below w0.heap.size w0 w14 := below_trans B13' hb14; have C14' := below_trans C13' hb14; have G14' := G13'.kept hb14; obtain ⟨t0', t1', t2'⟩ := unhide HD _ B14'))
  rw [unhide HOO] at n14
  have B14 := hide B14'
  have C14 := hide C14'
  have G14 := hide G14'
  have N14 := hide ((unhide N3).er.kept (unhide C14))
  have V14 := hide n14.er
  clear hb14 n14 B13 C13 G13 B13' C13' G13' U13' u13 hb13 hb13' B14' C14' G14' x0 x1 x2 y0 y1 y2 t0' t1' t2' e0 e1 e2 B12 C12 G12
  rw [unhide HDD] at *
  go_wp2_with (fail)
  refine (eqEvs hv wv O _ (unhide V14) (unhide N14) hO).mono ?_
  rintro e w15 ⟨rfl, hb15⟩
  have B15 := hide (below_trans (unhide B14) hb15)
  have G15 := hide ((unhide G14).kept hb15)
  clear hb15 B14 C14 G14 N14 V14
  go_wp2_with (fail)
  refine (heldEvs gv O.length 1 _ (unhide G15).er hO (by omega) (by omega)).mono ?_
  rintro e w16 ⟨rfl, hb16⟩
  have B16 := hide (below_trans (unhide B15) hb16)
  clear hb16 B15 G15
  go_wp2
  go_ret
  exact ⟨rfl, below_trans (unhide BW) (unhide B16)⟩
end Go.Proofs.Ytdjjgoeinkbmjaa.Evs
