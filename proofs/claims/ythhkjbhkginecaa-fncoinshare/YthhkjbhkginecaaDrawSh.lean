/-
  DrawCoinShare: a drawn total and drawn weights.
-/
import Derived.Test.YthhkjbhkginecaaRd2
import Derived.Test.YthhkjbhkginecaaApp
namespace Go.Proofs.Ythhkjbhkginecaa.Draw
set_option linter.unusedVariables false
open Go.RowKit
open Ints (Own Cells stepApp listApp vals)

def isAny (z : Int) : Prop := True
def isCount (z : Int) : Prop := 0 ≤ z ∧ z ≤ 17

set_option maxHeartbeats 1600000 in
theorem drawShare (a : Option Addr) (len cap : Nat) (w : World) (h : Bytes w a len cap) :
    Calls Try.prog 8 #[.slice a len cap] w fun e w' => ∃ (x : Int) (g n c : Nat) (l : List Int), e = .returned (.tuple #[.int .i64 x, .slice (some ⟨g, 0, none⟩) n c]) ∧ isCoin x ∧ l.length = n ∧ n ≤ 18 ∧ Cells w' g 0 l ∧ w.heap.size ≤ g ∧ Below w.heap.size w w' := by
  go_enter Try.func8, Try.ntmps8
  go_wp2_with fail
  refine (openR a len cap w h).mono ?_
  rintro e w1 ⟨rfl, hR1, hb1⟩
  have hs1 := hR1.lt
  go_wp2_with fail
  refine (num isCount w.heap.size 0 (w1.heap.size + 1) 0 10 10 _ ((hR1.kept (World.grownBy_alloc w1 _ none) (by simp)).kept (World.grownBy_alloc _ _ none) (by simp)) (by omega) (by omega) (by omega) (by omega) (by
    have := new_nums isCount (w1.alloc (.cells #[] 3)) [1, 2, 3, 3, 4, 7, 15, 16, 17, 0] 3 (by unfold isCount; simp)
    simpa using this)).mono ?_
  rintro e w2 ⟨z, rfl, hz, hR2, hg2⟩
  obtain ⟨N, rfl⟩ := Int.eq_ofNat_of_zero_le hz.1
  have hN : N ≤ 17 := by have := hz.2; omega
  have hga : w1.grownBy w2 (some w.heap.size) := grown_trans (World.grownBy_alloc w1 _ _) (grown_trans (World.grownBy_alloc _ _ _) hg2)
  have hO : Own w2 (w.heap.size + 1) w1.heap.size 0 [] := Own.kept (Own.kept (Own.new w1 (w.heap.size + 1) (by omega)) (World.grownBy_alloc _ _ none) (by simp)) hg2 (by simp; omega)
  have hb2 := below_of hb1 (Nat.le_refl _) hga
  have HO := Ints.hide hO
  clear hz hg2 hO hga hR1
  go_wp2_with fail
  go_loopw [5, 6] (fun o i wr => ∃ (k g c p : Nat) (l : List Int), k ≤ N ∧ i = .int .i64 ((N : Int) - k) ∧ o = .slice (some ⟨g, 0, none⟩) k c ∧ l.length = k ∧ Hid (Own wr (w.heap.size + 1) g c l) ∧ Hid (Rd wr w.heap.size p) ∧ p ≤ 1 + 2 * k ∧ Hid (Below w.heap.size w wr)) (fun _ i _ => (intOf i).toNat)
  case atStart => exact ⟨0, w1.heap.size, 0, 1, [], Nat.zero_le _, by simp, rfl, rfl, HO, hR2, by omega, hb2⟩
  case round =>
    obtain ⟨k, g, c, p, l, hk, rfl, rfl, hl, h1, h2, hp, h3⟩ := hrel
    have hgl := (unhide h1).lt
    have hsz := (unhide h3).size
    by_cases hlt : k < N
    · go_wp2_with fail
      refine (pick _ w.heap.size p _ (unhide h2) (by omega)).mono ?_
      rintro e w3 ⟨r, rfl, r0, r1, hR3, hg3⟩
      have H3 := hide hR3
      have hs3 := hg3.size
      have hw3 := hR3.lt
      go_wp2_with fail
      refine (num isAny w.heap.size (p + 1) w3.heap.size 0 8 8 _ (hR3.kept (World.grownBy_alloc w3 _ none) (by simp)) (by omega) (by omega) (by omega) (by omega) (new_nums isAny w3 [0, 1, 1, 2, 3, 10, 1000000, r] _ (fun _ _ => trivial))).mono ?_
      rintro e w4 ⟨y, rfl, _, hR4, hg4⟩
      have hg5 : World.grownBy _ w4 (some w.heap.size) := grown_trans hg3 (grown_trans (World.grownBy_alloc w3 _ _) hg4)
      have O4 := hide ((unhide h1).kept hg5 (by simp; omega))
      have B4 := hide (below_of (unhide h3) (Nat.le_refl _) hg5)
      have R4 := hide hR4
      have hs5 := hg5.size
      clear hg3 hg4 hg5 hR3 hR4 H3 r0 r1 h1 h2 h3
      go_wp2_with (first
                         | (at_builtin
                            refine listApp _ rfl _ _ rfl (w.heap.size + 1) g c _ k l _ hl rfl (Own.kept (unhide O4) (World.grownBy_alloc _ _ none) (by simp)) rfl (MapKept.heap_alloc _ _).1 (by omega) (by simp; omega) ?_
                            intro gb cb w6 ho hgr hat hlt6
                            have hg7 : w4.grownBy w6 (some g) := grown_trans (World.grownBy_alloc _ _ _) hgr
                            have R6 := hide ((unhide R4).kept hg7 (fun q hq => by cases hq; omega))
                            have B6 := hide ((unhide B4).grown hg7 (unhide B4).size (fun q hq => by cases hq; omega))
                            have O6 := hide ho
                            clear ho hgr hat hg7 R4 B4 O4))
      exact ⟨⟨k + 1, gb, cb, p + 1 + 1, _, by omega, by go_num, rfl, by rw [List.length_append, hl]; rfl, O6, R6, by omega, B6⟩, by simp [intOf]; omega⟩
    · obtain rfl : k = N := by omega
      go_wp2_with fail
      refine (pick _ w.heap.size p _ (unhide h2) (by omega)).mono ?_
      rintro e w3 ⟨r, rfl, r0, r1, hR3, hg3⟩
      have O3 := hide ((unhide h1).kept hg3 (by simp; omega))
      have B3 := hide (below_of (unhide h3) (Nat.le_refl _) hg3)
      have hs3 := hg3.size
      have hw3 := hR3.lt
      clear r0 r1 h1 h2 h3 hg3
      by_cases c0 : r = 0
      · have c0' : (r == 0) = true := by simpa using c0
        clear c0
        go_wp2_with fail
        refine (num isAny w.heap.size (p + 1) w3.heap.size 0 2 2 _ (hR3.kept (World.grownBy_alloc w3 _ none) (by simp)) (by omega) (by omega) (by omega) (by omega) (new_nums isAny w3 [-1, 1000001] _ (fun _ _ => trivial))).mono ?_
        rintro e w4 ⟨y, rfl, _, hR4, hg4⟩
        have hg5 : World.grownBy _ w4 (some w.heap.size) := grown_trans (World.grownBy_alloc w3 _ _) hg4
        have O4 := hide ((unhide O3).kept hg5 (by simp; omega))
        have B4 := hide (below_of (unhide B3) (Nat.le_refl _) hg5)
        have R4 := hide hR4
        have hs5 := hg5.size
        clear hg4 hg5 hR3 hR4 O3 B3
        go_wp2_with (first
                         | (at_builtin
                            refine listApp _ rfl _ _ rfl (w.heap.size + 1) g c _ k l _ hl rfl (Own.kept (unhide O4) (World.grownBy_alloc _ _ none) (by simp)) rfl (MapKept.heap_alloc _ _).1 (by omega) (by simp; omega) ?_
                            intro gb cb w6 ho hgr hat hlt6
                            have hg7 : w4.grownBy w6 (some g) := grown_trans (World.grownBy_alloc _ _ _) hgr
                            have R6 := hide ((unhide R4).kept hg7 (fun q hq => by cases hq; omega))
                            have B6 := hide ((unhide B4).grown hg7 (unhide B4).size (fun q hq => by cases hq; omega))
                            have O6 := hide ho
                            clear ho hgr hat hg7 R4 B4 O4))
        refine (l1Coin w.heap.size (p + 1 + 1) _ (unhide R6) (by omega)).mono ?_
        rintro e w7 ⟨x, rfl, hx, _, hg8⟩
        have O7 := hide ((unhide O6).kept hg8 (by have := (unhide O6).lt; simp; omega))
        have B7 := hide (below_of (unhide B6) (Nat.le_refl _) hg8)
        have g7 := (unhide O6).lt
        clear hg8 R6 O6 B6
        go_wp2_with fail
        go_ret2
        exact ⟨x, gb, _, cb, l ++ [y], rfl, hx, by rw [List.length_append, hl]; rfl, by omega, (unhide O7).cells, by omega, unhide B7⟩
      · have c0' : (r == 0) = false := by simpa using c0
        clear c0
        go_wp2_with fail
        refine (l1Coin w.heap.size (p + 1) _ hR3 (by omega)).mono ?_
        rintro e w7 ⟨x, rfl, hx, _, hg8⟩
        have O7 := hide ((unhide O3).kept hg8 (by have := (unhide O3).lt; simp; omega))
        have B7 := hide (below_of (unhide B3) (Nat.le_refl _) hg8)
        clear hg8 hR3 O3 B3
        go_wp2_with fail
        go_ret2
        exact ⟨x, g, _, c, l, rfl, hx, hl, by omega, (unhide O7).cells, by omega, unhide B7⟩
end Go.Proofs.Ythhkjbhkginecaa.Draw
