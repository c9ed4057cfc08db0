/-
  What is drawn for UseFix: events, a name and a number.
-/
import Derived.Test.YthhkjbhkginecaaDrawLs
import Derived.Test.YthhkjbhkginecaaLawFix
namespace Go.Proofs.Ythhkjbhkginecaa.Draw
set_option linter.unusedVariables false
open Go.RowKit

theorem grown_drewN {a c : World} {r : Option Nat} (h : a.grownBy c r) (k : Nat) : a.grownBy (c.drewN k) r := ⟨h.os, h.tape, h.output, h.size, h.block⟩
/-- what is handed out -/
def FxOut (w w' : World) (v : Value) (id : ByteArray) (q : Int) : Prop := ∃ l : List Evs.E, l.length ≤ 25 ∧ Evs.EN w.heap.size w' v l ∧ (∀ u ∈ l, goodE u) ∧ isW9 id ∧ isQ q ∧ Below w.heap.size w w'
theorem FxOut.mk {w w1 w2 w3 W : World} {v : Value} {l : List Evs.E} {id : ByteArray} {q : Int} (hl : l.length ≤ 25) (hE : Evs.EN w1.heap.size w2 v l) (hg : ∀ u ∈ l, goodE u) (h1 : isW9 id) (h2 : isQ q) (h01 : Below w.heap.size w w1) (h12 : w1.grownBy w2 (some w.heap.size)) (h23 : w2.grownBy w3 (some w.heap.size)) (h3 : w3.grownBy W (some w.heap.size)) (hlt : w.heap.size < w1.heap.size) : FxOut w W v id q := by
  have hgw := grown_trans h12 (grown_trans h23 h3)
  refine ⟨l, hl, ((hE.keptG (grown_trans h23 h3) (fun j hj => by cases hj; exact hlt)).low h01.size), hg, h1, h2, ?_⟩
  exact h01.grown hgw h01.size (fun j hj => by cases hj; exact Nat.le_refl _)

set_option maxHeartbeats 4000000 in
set_option maxRecDepth 20000 in
/-- DrawUseFix -/
theorem drawFix (a : Option Addr) (len cap : Nat) (w : World) (h : Bytes w a len cap) :
    Calls Try.prog 19 #[.slice a len cap] w fun e w' => ∃ v id q, e = .returned (.tuple #[v, .string id, .int .i64 q]) ∧ FxOut w w' v id q := by
  have H := Uses.hide h
  clear h
  go_enter Try.func19, Try.ntmps19
  go_wp2_with fail
  refine (openR a len cap _ (Uses.unhide H)).mono ?_
  rintro e w1 ⟨rfl, hR1, hb1⟩
  have z1 := hR1.lt
  have R1 := Uses.hide hR1
  have B1 := Uses.hide hb1
  clear hR1 hb1
  go_wp2_with fail
  refine (list3 w.heap.size 0 _ (Uses.unhide R1) (by omega)).mono ?_
  rintro e w2 ⟨v, rfl, q2, l, hl, hE, hgd, hR2, _, hq2, hg2⟩
  have E2 := Uses.hide hE
  have R2 := Uses.hide hR2
  have G2 := Uses.hide hg2
  have D2 := Uses.hide hgd
  have z2 := hg2.size
  clear hE hR2 hg2 hgd R1
  go_wp2_with fail
  refine (drawn w.heap.size q2 _ (Uses.unhide R2) (by omega)).mono ?_
  rintro e w3 ⟨⟨s, m, n⟩, q3, rfl, x1, x2, x3, hR3, _, hq3, hg3⟩
  have T3 := Uses.hide (St.new w3 w.heap.size q3 hR3 (s, m, n) 31)
  have G3 := Uses.hide hg3
  have z3 := hg3.size
  obtain ⟨c0, _, c2, f0, _, _⟩ := EOwn.at0 (Uses.unhide T3).own
  clear hR3 hg3 R2
  rcases (Uses.unhide E2) with ⟨rfl, va, vc, rfl⟩ | ⟨g, vc, rfl, ⟨hgB, hgc⟩, hO⟩
  · go_wp2
    go_quiet (fail)
    go_wp2
    exact bodyPost_ret (v := .tuple #[.slice va 0 vc, .string s, .int .i64 n]) (by simp [results, Try.results19, go_sem]) rfl ⟨_, _, _, rfl, FxOut.mk hl (Uses.unhide E2) (Uses.unhide D2) x1 x3 (Uses.unhide B1) (Uses.unhide G2) (Uses.unhide G3) (grown_drewN (World.grownBy_alloc _ _ _) _) z1⟩
  · by_cases h0 : l.length = 0
    · have E0 := E2
      rw [h0] at E2 ⊢
      clear h0
      go_wp2
      go_quiet (fail)
      go_wp2
      exact bodyPost_ret (v := .tuple #[.slice (some ⟨g, 0, none⟩) 0 vc, .string s, .int .i64 n]) (by simp [results, Try.results19, go_sem]) rfl ⟨_, _, _, rfl, FxOut.mk hl (Uses.unhide E2) (Uses.unhide D2) x1 x3 (Uses.unhide B1) (Uses.unhide G2) (Uses.unhide G3) (grown_drewN (World.grownBy_alloc _ _ _) _) z1⟩
    have hp0 : (0 : Int) < (l.length : Int) := by omega
    clear c0 c2 f0 hO
    go_wp2_with fail
    refine ((Uses.unhide T3).pick (by omega) 3).mono ?_
    rintro e w4 ⟨r, rfl, r0, _, hT4⟩
    have T4 := Uses.hide hT4
    obtain ⟨c0, _, c2, f0, _, _⟩ := EOwn.at0 hT4.own
    clear hT4 T3
    by_cases e0 : r = 0
    · subst e0
      go_wp2
      go_quiet (fail)
      go_wp2
      exact bodyPost_ret (v := .tuple #[.slice (some ⟨g, 0, none⟩) l.length vc, .string s, .int .i64 n]) (by simp [results, Try.results19, go_sem]) rfl ⟨_, _, _, rfl, FxOut.mk hl (Uses.unhide E2) (Uses.unhide D2) x1 x3 (Uses.unhide B1) (Uses.unhide G2) (Uses.unhide G3) (grown_drewN (Uses.unhide T4).gr _) z1⟩
    have hr0 : 0 < r := by omega
    clear c0 c2 f0
    go_wp2_with fail
    refine ((Uses.unhide T4).pick (by omega) _).mono ?_
    rintro e w5 ⟨r', rfl, r0', r1', hT5⟩
    obtain ⟨j, rfl⟩ := Int.eq_ofNat_of_zero_le r0'
    have hj : j < l.length := by omega
    have E5 := (Uses.unhide E2).keptG (grown_trans (Uses.unhide G3) hT5.gr) (fun k hk => by cases hk; exact z1)
    rcases E5 with ⟨rfl, _⟩ | ⟨g', vc', hv', _, hO⟩
    · simp at hj
    simp only [Value.slice.injEq, Option.some.injEq, Addr.mk.injEq, and_true, true_and] at hv'
    obtain ⟨rfl, rfl⟩ := hv'
    obtain ⟨k0, _, _⟩ := hO.1.2 j hj
    rw [Nat.zero_add] at k0
    have gd := (getD_good (Uses.unhide D2) hj).1
    have i1 : (0 : Int) ≤ (j : Int) := by omega
    have i2 : (j : Int) < (l.length : Int) := by omega
    obtain ⟨c0, _, c2, f0, _, _⟩ := EOwn.at0 hT5.own
    have T5 := Uses.hide (hT5.setA (l.getD j Evs.E0).1)
    obtain ⟨c0', _, c2', _, _, _⟩ := EOwn.at0 (Uses.unhide T5).own
    clear hT5 T4 hO r1'
    generalize (l.getD j Evs.E0).1 = t at *
    go_wp2
    go_quiet (fail)
    go_wp2
    exact bodyPost_ret (v := .tuple #[.slice (some ⟨g, 0, none⟩) l.length vc, .string t, .int .i64 n]) (by simp [results, Try.results19, go_sem]) rfl ⟨_, _, _, rfl, FxOut.mk hl (Uses.unhide E2) (Uses.unhide D2) gd x3 (Uses.unhide B1) (Uses.unhide G2) (Uses.unhide G3) (grown_drewN (Uses.unhide T5).gr _) z1⟩
end Go.Proofs.Ythhkjbhkginecaa.Draw
