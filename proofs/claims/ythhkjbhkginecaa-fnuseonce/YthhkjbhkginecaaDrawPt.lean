/-
  What is drawn for UsePut: events, and one.
-/
import Derived.Test.YthhkjbhkginecaaDrawFx
namespace Go.Proofs.Ythhkjbhkginecaa.Draw
set_option linter.unusedVariables false
open Go.RowKit

/-- what is handed out -/
def PtOut (w w' : World) (v : Value) (e : Evs.E) : Prop := ∃ l : List Evs.E, l.length ≤ 25 ∧ Evs.EN w.heap.size w' v l ∧ (∀ u ∈ l, goodE u) ∧ goodE e ∧ Below w.heap.size w w'

theorem PtOut.mk {w w1 w2 w3 X W : World} {v : Value} {l : List Evs.E} {e : Evs.E} (hl : l.length ≤ 25) (hE : Evs.EN w1.heap.size w2 v l) (hg : ∀ u ∈ l, goodE u) (he : goodE e) (h01 : Below w.heap.size w w1) (h12 : w1.grownBy w2 (some (w.heap.size + 1))) (h23 : w2.grownBy w3 (some (w.heap.size + 1))) (h3 : w3.grownBy X (some (w.heap.size + 1))) (h4 : X.grownBy W (some w.heap.size)) (hlt : w.heap.size + 1 < w1.heap.size) : PtOut w W v e := by
  have hgw := grown_trans h12 (grown_trans h23 h3)
  refine ⟨l, hl, (((hE.keptG (grown_trans h23 h3) (fun j hj => by cases hj; exact hlt)).keptG h4 (fun j hj => by cases hj; omega)).low h01.size), hg, he, ?_⟩
  exact (h01.grown hgw h01.size (fun j hj => by cases hj; omega)).grown h4 (Nat.le_trans h01.size hgw.size) (fun j hj => by cases hj; exact Nat.le_refl _)
theorem set3_grown (X : World) (g : Nat) (a b c : Value) : X.grownBy (((X.setCell ⟨g, 0, none⟩ a).setCell ⟨g, 1, none⟩ b).setCell ⟨g, 2, none⟩ c).drew (some g) := by
  have h := grown_trans (grown_trans (grow_set X g 0 a) (grow_set _ _ 1 b)) (grow_set _ _ 2 c)
  exact ⟨h.os, h.tape, h.output, h.size, h.block⟩
theorem set3_back {X : World} {g : Nat} {s m : ByteArray} {n : Int} (h : Evs.EOwn X g [(s, m, n)]) (v0 v1 v2 : Value) :
    (X.setCell ⟨g, 0, none⟩ v0).cell? ⟨g, 0, none⟩ = some v0 ∧ ((X.setCell ⟨g, 0, none⟩ v0).setCell ⟨g, 1, none⟩ v1).cell? ⟨g, 1, none⟩ = some v1 ∧ (((X.setCell ⟨g, 0, none⟩ v0).setCell ⟨g, 1, none⟩ v1).setCell ⟨g, 2, none⟩ v2).cell? ⟨g, 2, none⟩ = some v2 := by
  obtain ⟨c0, c1, c2, _⟩ := EOwn.at0 h
  refine ⟨World.cell?_setCell_same _ _ _ c0, World.cell?_setCell_same _ _ _ ((World.cell?_setCell_other _ _ _ _ (by simp)).trans c1), World.cell?_setCell_same _ _ _ ((World.cell?_setCell_other _ _ _ _ (by simp)).trans ((World.cell?_setCell_other _ _ _ _ (by simp)).trans c2))⟩

set_option maxHeartbeats 4000000 in
set_option maxRecDepth 20000 in
/-- DrawUsePut -/
theorem drawPut (a : Option Addr) (len cap : Nat) (w : World) (h : Bytes w a len cap) :
    Calls Try.prog 11 #[.slice a len cap] w fun e w' => ∃ v x, e = .returned (.tuple #[v, Evs.eV x]) ∧ PtOut w w' v x := by
  have hb0 : Below w.heap.size w (w.alloc (.cells #[.string ⟨#[]⟩, .string ⟨#[]⟩, .int .i64 0] 31)) := below_alloc _ _
  have O0 := Uses.hide (EOwn.new1 w (⟨#[]⟩, ⟨#[]⟩, 0) 31)
  have H := Uses.hide (h.kept hb0)
  have B0 := Uses.hide hb0
  have hz0 : (w.alloc (.cells #[.string ⟨#[]⟩, .string ⟨#[]⟩, .int .i64 0] 31)).heap.size = w.heap.size + 1 := by simp
  clear h hb0
  go_enter Try.func11, Try.ntmps11
  go_wp2_with fail
  refine (openR a len cap _ (Uses.unhide H)).mono ?_
  rintro e w1 ⟨rfl, hR1, hb1⟩
  have z1 := hR1.lt
  have R1 := Uses.hide hR1
  have B1 := Uses.hide (Draw.below_trans (Uses.unhide B0) hb1)
  have O1 := Uses.hide ((Uses.unhide O0).kept hb1)
  rw [hz0] at R1 z1 ⊢
  clear hR1 hb1 B0 O0 hz0
  go_wp2_with fail
  refine (list3 (w.heap.size + 1) 0 _ (Uses.unhide R1) (by omega)).mono ?_
  rintro e w2 ⟨v, rfl, q2, l, hl, hE, hgd, hR2, _, hq2, hg2⟩
  have E2 := Uses.hide hE
  have R2 := Uses.hide hR2
  have G2 := Uses.hide hg2
  have D2 := Uses.hide hgd
  have z2 := hg2.size
  have O2 := Uses.hide (EOwn.grown (Uses.unhide O1) hg2 (by simp))
  clear hE hR2 hg2 hgd R1 O1
  go_wp2_with fail
  refine (drawn (w.heap.size + 1) q2 _ (Uses.unhide R2) (by omega)).mono ?_
  rintro e w3 ⟨⟨s, m, n⟩, q3, rfl, x1, x2, x3, hR3, _, hq3, hg3⟩
  have T3 := Uses.hide (St.new w3 (w.heap.size + 1) q3 hR3 (s, m, n) 31)
  have G3 := Uses.hide hg3
  have z3 := hg3.size
  have O3 := Uses.hide (EOwn.grown (Uses.unhide O2) hg3 (by simp))
  clear hR3 hg3 R2 O2
  simp only at x1 x2 x3 T3
  have hne : w.heap.size ≠ w3.heap.size := by omega
  have hwz : w.heap.size < w3.heap.size := by omega
  rcases (Uses.unhide E2) with ⟨rfl, va, vc, rfl⟩ | ⟨g, vc, rfl, ⟨hgB, hgc⟩, hO⟩
  · go_wp2
    have O9 := EOwn.grown (Uses.unhide O3) (Uses.unhide T3).gr (by simp)
    obtain ⟨d0, d1, d2, f0, f1, f2⟩ := EOwn.at0 O9
    obtain ⟨c0, c1, c2, g0, g1, g2⟩ := EOwn.at0 (Uses.unhide T3).own
    have P9 := Uses.hide (set3_back O9 (.string s) (.string m) (.int .i64 n))
    have R9 := Uses.hide (Uses.unhide T3).gr
    generalize (w3.alloc (.cells #[.string s, .string m, .int .i64 n] 31)) = X at *
    go_region
    obtain ⟨p0, p1, p2⟩ := Uses.unhide P9
    go_wp2
    exact bodyPost_ret (v := .tuple #[.slice va 0 vc, .agg #[.string s, .string m, .int .i64 n]]) (by simp [results, Try.results11, go_sem, p0, p1, p2]) rfl ⟨_, (s, m, n), rfl, PtOut.mk hl (Uses.unhide E2) (Uses.unhide D2) ⟨x1, x2, x3⟩ (Uses.unhide B1) (Uses.unhide G2) (Uses.unhide G3) (Uses.unhide R9) (set3_grown _ _ _ _ _) z1⟩
  · by_cases h0 : l.length = 0
    · rw [h0] at E2 ⊢
      clear h0
      go_wp2
      have O9 := EOwn.grown (Uses.unhide O3) (Uses.unhide T3).gr (by simp)
      obtain ⟨d0, d1, d2, f0, f1, f2⟩ := EOwn.at0 O9
      obtain ⟨c0, c1, c2, g0, g1, g2⟩ := EOwn.at0 (Uses.unhide T3).own
      have P9 := Uses.hide (set3_back O9 (.string s) (.string m) (.int .i64 n))
      have R9 := Uses.hide (Uses.unhide T3).gr
      generalize (w3.alloc (.cells #[.string s, .string m, .int .i64 n] 31)) = X at *
      go_region
      obtain ⟨p0, p1, p2⟩ := Uses.unhide P9
      go_wp2
      exact bodyPost_ret (v := .tuple #[.slice (some ⟨g, 0, none⟩) 0 vc, .agg #[.string s, .string m, .int .i64 n]]) (by simp [results, Try.results11, go_sem, p0, p1, p2]) rfl ⟨_, (s, m, n), rfl, PtOut.mk hl (Uses.unhide E2) (Uses.unhide D2) ⟨x1, x2, x3⟩ (Uses.unhide B1) (Uses.unhide G2) (Uses.unhide G3) (Uses.unhide R9) (set3_grown _ _ _ _ _) z1⟩
    have hp0 : (0 : Int) < (l.length : Int) := by omega
    clear hO
    go_wp2_with fail
    refine ((Uses.unhide T3).pick (by omega) 4).mono ?_
    rintro e w4 ⟨r, rfl, r0, _, hT4⟩
    have T4 := Uses.hide hT4
    clear hT4 T3
    by_cases e0 : r = 0
    · subst e0
      go_wp2_with fail
      refine ((Uses.unhide T4).pick (by omega) _).mono ?_
      rintro e w5 ⟨r', rfl, r0', r1', hT5⟩
      obtain ⟨j, rfl⟩ := Int.eq_ofNat_of_zero_le r0'
      have hj : j < l.length := by omega
      have E5 := (Uses.unhide E2).keptG (grown_trans (Uses.unhide G3) hT5.gr) (fun k hk => by cases hk; exact z1)
      rcases E5 with ⟨rfl, _⟩ | ⟨g', vc', hv', _, hO⟩
      · simp at hj
      simp only [Value.slice.injEq, Option.some.injEq, Addr.mk.injEq, and_true, true_and] at hv'
      obtain ⟨rfl, rfl⟩ := hv'
      obtain ⟨k0, k1, k2⟩ := hO.1.2 j hj
      rw [Nat.zero_add] at k0 k1 k2
      have gd := getD_good (Uses.unhide D2) hj
      have i1 : (0 : Int) ≤ (j : Int) := by omega
      have i2 : (j : Int) < (l.length : Int) := by omega
      have T5 := Uses.hide (((hT5.setA (l.getD j Evs.E0).1).setB (l.getD j Evs.E0).2.1).setQ (l.getD j Evs.E0).2.2)
      obtain ⟨c0, c1, c2, g0, g1, g2⟩ := EOwn.at0 hT5.own
      clear hT5 T4 hO r1'
      generalize l.getD j Evs.E0 = x at *
      obtain ⟨xs, xm, xq⟩ := x
      dsimp only at k0 k1 k2 T5
      go_wp2
      clear c0 c1 c2 g0 g1 g2 k0 k1 k2
      have O9 := EOwn.grown (Uses.unhide O3) (Uses.unhide T5).gr (by simp)
      obtain ⟨d0, d1, d2, f0, f1, f2⟩ := EOwn.at0 O9
      obtain ⟨c0, c1, c2, g0, g1, g2⟩ := EOwn.at0 (Uses.unhide T5).own
      have P9 := Uses.hide (set3_back O9 (.string xs) (.string xm) (.int .i64 xq))
      have R9 := Uses.hide (Uses.unhide T5).gr
      generalize (((w5.setCell ⟨w3.heap.size, 0, none⟩ (.string xs)).setCell ⟨w3.heap.size, 1, none⟩ (.string xm)).setCell ⟨w3.heap.size, 2, none⟩ (.int .i64 xq)) = X at *
      go_region
      obtain ⟨p0, p1, p2⟩ := Uses.unhide P9
      go_wp2
      exact bodyPost_ret (v := .tuple #[.slice (some ⟨g, 0, none⟩) l.length vc, .agg #[.string xs, .string xm, .int .i64 xq]]) (by simp [results, Try.results11, go_sem, p0, p1, p2]) rfl ⟨_, (xs, xm, xq), rfl, PtOut.mk hl (Uses.unhide E2) (Uses.unhide D2) gd (Uses.unhide B1) (Uses.unhide G2) (Uses.unhide G3) (Uses.unhide R9) (set3_grown _ _ _ _ _) z1⟩
    · have b0 : (r == 0) = false := by simpa using e0
      go_wp2
      have O9 := EOwn.grown (Uses.unhide O3) (Uses.unhide T4).gr (by simp)
      obtain ⟨d0, d1, d2, f0, f1, f2⟩ := EOwn.at0 O9
      obtain ⟨c0, c1, c2, g0, g1, g2⟩ := EOwn.at0 (Uses.unhide T4).own
      have P9 := Uses.hide (set3_back O9 (.string s) (.string m) (.int .i64 n))
      have R9 := Uses.hide (Uses.unhide T4).gr
      go_region
      obtain ⟨p0, p1, p2⟩ := Uses.unhide P9
      go_wp2
      exact bodyPost_ret (v := .tuple #[.slice (some ⟨g, 0, none⟩) l.length vc, .agg #[.string s, .string m, .int .i64 n]]) (by simp [results, Try.results11, go_sem, p0, p1, p2]) rfl ⟨_, (s, m, n), rfl, PtOut.mk hl (Uses.unhide E2) (Uses.unhide D2) ⟨x1, x2, x3⟩ (Uses.unhide B1) (Uses.unhide G2) (Uses.unhide G3) (Uses.unhide R9) (set3_grown _ _ _ _ _) z1⟩
end Go.Proofs.Ythhkjbhkginecaa.Draw
