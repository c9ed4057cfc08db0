/-
  The law on UseSums: impl.UseSums answers as spec.UseSums, writes into no argument, and its answer owns its memory.
-/
import Derived.Test.YtdjjgoeinkbmjaaLawFix
import Derived.Test.YtdjjgoeinkbmjaaSumI
import Derived.Test.YtdjjgoeinkbmjaaSumS
import Derived.Test.YtdjjgoeinkbmjaaMarkU
namespace Go.Proofs.Ytdjjgoeinkbmjaa.Sums
set_option linter.unusedVariables false
open Go.RowKit Go.Maps MapM
open Uses (U U0 UOwn UC UR)
open Evs (E E0 hide unhide below_trans ER EC szEvs toEvs eqEvs markEvs heldEvs)

set_option maxHeartbeats 2000000 in
theorem lawSums (v : Value) (l : List E) (w : World) (h : ER w v l) (hl : l.length ≤ maxLen) (hs : ∀ u ∈ l, u.1.size ≤ maxLen ∧ u.2.1.size ≤ maxLen) :
    Calls Try.prog 8 #[v] w fun e w' => e = .returned (.bool true) ∧ Below w.heap.size w w' := by
  have H := hide h
  have HS := hide hs
  clear h hs
  go_enter Try.func8, Try.ntmps8
  go_wp2_with (fail)
  refine (szEvs v l 1048576 _ (unhide H) hl (unhide HS) (by omega) (by omega)).mono ?_
  rintro e w1 ⟨r, rfl, r1, r3, r2, hb1⟩
  by_cases hr : r < 0
  · have B1 := hide hb1
    clear hb1
    go_wp2
    go_ret
    exact ⟨rfl, unhide B1⟩
  have hl2 : l.length ≤ 1048576 := by have := r2 (by omega); omega
  have H0 := H
  have B1 := hide hb1
  clear hb1 r2 hl H
  have hO : (sumsO l).length ≤ 1048576 := by
    unfold sumsO
    split
    · have := sums_len l l.length (Nat.le_refl _)
      rw [List.take_length] at this
      omega
    · simp
  go_wp2_with (fail)
  refine (toEvs v l _ ((unhide H0).kept (unhide B1)) hl2).mono ?_
  rintro e w2 ⟨v2, rfl, u2, hb2⟩
  have B2 := hide (below_trans (unhide B1) hb2)
  have U2 := hide u2.er
  clear B1 hb2 u2
  go_wp2_with (fail)
  refine (useSumsS v2 l _ (unhide U2) hl2 (unhide HS)).mono ?_
  rintro e w3 ⟨wv, rfl, n3, hb3⟩
  have B3 := hide (below_trans (unhide B2) hb3)
  have N3 := hide n3
  clear B2 hb3 U2 n3
  go_wp2_with (fail)
  refine (toEvs v l _ ((unhide H0).kept (unhide B3)) hl2).mono ?_
  rintro e w4 ⟨v4, rfl, u4, hb4⟩
  have B4 := hide (below_trans (unhide B3) hb4)
  have C4 := hide hb4
  have U4 := hide u4
  have z3 := (unhide B3).size
  have z4 := hb4.size
  clear B3 hb4 u4
  go_wp2_with (fail)
  refine (useSumsI v4 l _ (unhide U4).er hl2 (unhide HS)).mono ?_
  rintro e w5 ⟨gv, rfl, n5, hb5⟩
  have B5 := hide (below_trans (unhide B4) hb5)
  have C5 := hide (below_trans (unhide C4) hb5)
  have N5 := hide ((unhide N3).ur.kept (unhide C5))
  have U5 := hide ((unhide U4).kept hb5)
  have G5 := hide n5
  have y5 : Hid (∀ b, v4.ownBlock = some b → l ≠ [] → w3.heap.size ≤ b ∧ b < w4.heap.size) := hide (fun b hb hne => by
    obtain ⟨b', h1, h2, h3⟩ := (unhide U4).block hne
    rw [h1] at hb
    simp only [Option.some.injEq] at hb
    subst hb
    exact ⟨h2, h3⟩)
  clear B4 hb5 U4 n5 C4
  generalize hOO : sumsO l = O at *
  have HOO := hide hOO
  clear hOO
  go_wp2_with (fail)
  refine (Uses.eqUses gv wv O _ (unhide G5).ur (unhide N5) hO).mono ?_
  rintro e w6 ⟨rfl, hb6⟩
  have B6 := hide (below_trans (unhide B5) hb6)
  have C6 := hide (below_trans (unhide C5) hb6)
  have U6 := hide ((unhide U5).kept hb6)
  have G6 := hide ((unhide G5).kept hb6)
  clear hb6 B5 C5 U5 G5 N5
  go_wp2_with (fail)
  refine (toEvs v l _ ((unhide H0).kept (unhide B6)) hl2).mono ?_
  rintro e w7 ⟨v7, rfl, u7, hb7⟩
  have B7 := hide (below_trans (unhide B6) hb7)
  have C7 := hide (below_trans (unhide C6) hb7)
  have U7 := hide ((unhide U6).kept hb7)
  have G7 := hide ((unhide G6).kept hb7)
  have V7 := hide u7.er
  clear hb7 B6 C6 U6 G6 u7
  go_wp2_with (fail)
  refine (eqEvs v4 v7 l _ (unhide U7).er (unhide V7) hl2).mono ?_
  rintro e w8 ⟨rfl, hb8⟩
  have B8 := hide (below_trans (unhide B7) hb8)
  have C8 := hide (below_trans (unhide C7) hb8)
  have U8 := hide ((unhide U7).kept hb8)
  have G8 := hide ((unhide G7).kept hb8)
  clear hb8 B7 C7 U7 G7 V7
  go_wp2_with (fail)
  refine (markEvs _ v4 l 1 _ (unhide U8) hl2 (by omega) (by omega)).mono ?_
  rintro e w9 ⟨rfl, _, r9, hg9, hr9⟩
  have hrr : ∀ b, r9 = some b → w3.heap.size ≤ b ∧ b < w4.heap.size := fun b hb => unhide y5 b (hr9 b hb).1 (hr9 b hb).2.1
  have C9 := hide ((unhide C8).grown hg9 (unhide C8).size (fun b hb => (hrr b hb).1))
  have B9 := hide ((unhide B8).grown hg9 (unhide B8).size (fun b hb => Nat.le_trans z3 (hrr b hb).1))
  have G9 := hide ((unhide G8).keptG hg9 (fun b hb => (hrr b hb).2))
  have N9 := hide ((unhide N3).ur.kept (unhide C9))
  clear hg9 hr9 hrr r9 B8 C8 G8 U8 y5
  have k9 : ¬ ((1 + 3 * l.length : Nat) : Int) < 0 := by omega
  go_wp2_with (fail)
  refine (Uses.eqUses gv wv O _ (unhide G9).ur (unhide N9) hO).mono ?_
  rintro e w10 ⟨rfl, hb10⟩
  have B10 := hide (below_trans (unhide B9) hb10)
  have C10 := hide (below_trans (unhide C9) hb10)
  have G10 := hide ((unhide G9).kept hb10)
  clear hb10 B9 C9 G9 N9
  go_wp2_with (fail)
  refine (markUses _ gv O 1 _ (unhide G10) hO (by omega) (by omega)).mono ?_
  rintro e w11 ⟨rfl, g11, r11, hg11, hr11⟩
  have C11 := hide ((unhide C10).grown hg11 (unhide C10).size (fun b hb => Nat.le_trans z4 (hr11 b hb).2.2))
  have B11 := hide ((unhide B10).grown hg11 (unhide B10).size (fun b hb => Nat.le_trans z3 (Nat.le_trans z4 (hr11 b hb).2.2)))
  have G11 := hide g11
  clear hg11 hr11 r11 B10 C10 G10 g11
  go_wp2_with (fail)
  refine (heldUses gv O.length 1 _ (unhide G11).ur hO (by omega) (by omega)).mono ?_
  rintro e w12 ⟨rfl, hb12⟩
  have B12 := hide (below_trans (unhide B11) hb12)
  have C12 := hide (below_trans (unhide C11) hb12)
  have G12 := hide ((unhide G11).kept hb12)
  clear hb12 B11 C11 G11
  have x12 : ((1 + 2 * (O.length : Int)) != (1 + 2 * (O.length : Int))) = false := by simp
  go_wp2_with (fail)
  refine (toEvs v l _ ((unhide H0).kept (unhide B12)) hl2).mono ?_
  rintro e w13 ⟨v13, rfl, u13, hb13⟩
  have B13 := hide (below_trans (unhide B12) hb13)
  have C13 := hide (below_trans (unhide C12) hb13)
  have G13 := hide ((unhide G12).kept hb13)
  have V13 := hide u13.er
  clear hb13 B12 C12 G12 u13
  go_wp2_with (fail)
  refine (useSumsI v13 l _ (unhide V13) hl2 (unhide HS)).mono ?_
  rintro e w14 ⟨hv, rfl, n14, hb14⟩
  rw [unhide HOO] at n14
  have B14 := hide (below_trans (unhide B13) hb14)
  have C14 := hide (below_trans (unhide C13) hb14)
  have G14 := hide ((unhide G13).kept hb14)
  have N14 := hide ((unhide N3).ur.kept (unhide C14))
  have V14 := hide n14.ur
  clear hb14 B13 C13 G13 n14 V13
  go_wp2_with (fail)
  refine (Uses.eqUses hv wv O _ (unhide V14) (unhide N14) hO).mono ?_
  rintro e w15 ⟨rfl, hb15⟩
  have B15 := hide (below_trans (unhide B14) hb15)
  have G15 := hide ((unhide G14).kept hb15)
  clear hb15 B14 C14 G14 N14 V14
  go_wp2_with (fail)
  refine (heldUses gv O.length 1 _ (unhide G15).ur hO (by omega) (by omega)).mono ?_
  rintro e w16 ⟨rfl, hb16⟩
  have B16 := hide (below_trans (unhide B15) hb16)
  clear hb16 B15 G15
  go_wp2
  go_ret
  exact ⟨rfl, unhide B16⟩
end Go.Proofs.Ytdjjgoeinkbmjaa.Sums
