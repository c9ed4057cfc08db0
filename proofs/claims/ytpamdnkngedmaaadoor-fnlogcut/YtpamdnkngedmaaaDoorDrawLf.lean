/-
  DrawLogFrame: a text; and spec.l18Many.
-/
import Derived.Test.YtpamdnkngedmaaaDoorDrawLg
namespace Go.Proofs.YtpamdnkngedmaaaDoor.Draw
set_option linter.unusedVariables false
open Go.RowKit
open Fr (hide unhide)

set_option maxHeartbeats 1000000 in
/-- l18Many: a text so many times -/
theorem many (s : ByteArray) (n : Nat) (w : World) (hs : s.size ≤ 1) (hn : n ≤ 1100) :
    Calls Tryd.prog 22 #[.string s, .int .i64 n] w fun e w' => ∃ z : ByteArray, e = .returned (.string z) ∧ z.size ≤ 1100 ∧ w' = w := by
  go_enter Tryd.func22, Tryd.ntmps22
  go_wp2
  go_loop [0, 1, 5] (fun t0 t1 t5 => ∃ (x z : ByteArray) (m : Nat), t0 = .string x ∧ t1 = .int .i64 m ∧ t5 = .string z ∧ z.size + x.size * m ≤ n ∧ m ≤ n ∧ x.size ≤ 2200) (fun _ t1 _ => (intOf t1).toNat)
  case atStart => exact ⟨s, ⟨#[]⟩, n, rfl, rfl, rfl, by
    have : s.size * n ≤ 1 * n := Nat.mul_le_mul_right _ hs
    show 0 + s.size * n ≤ n
    omega, Nat.le_refl _, by omega⟩
  case round =>
    obtain ⟨x, z, m, rfl, rfl, rfl, hz, hm, hx⟩ := hrel
    by_cases h0 : 0 < m
    · have h0i : (0 : Int) < (m : Int) := by omega
      have hxm : x.size ≤ x.size * m := Nat.le_mul_of_pos_right _ h0
      obtain ⟨q, r, hqr, hr⟩ : ∃ q r, m = 2 * q + r ∧ r < 2 := ⟨m / 2, m % 2, by omega, by omega⟩
      have hmul : x.size * m = 2 * (x.size * q) + x.size * r := by rw [hqr, Nat.mul_add, ← Nat.mul_assoc, Nat.mul_comm x.size 2, Nat.mul_assoc]
      have hdbl : (x ++ x).size * q = 2 * (x.size * q) := by rw [ByteArray.size_append, Nat.add_mul]; omega
      by_cases h1 : r = 1
      · subst h1
        have h2 : x.size * 1 = x.size := Nat.mul_one _
        go_wp2
        exact ⟨⟨x ++ x, z ++ x, q, rfl, by congr 1; omega, rfl, by rw [hdbl, ByteArray.size_append]; omega, by omega, by rw [ByteArray.size_append]; omega⟩, by simp only [intOf]; omega⟩
      · obtain rfl : r = 0 := by omega
        have h2 : x.size * 0 = 0 := Nat.mul_zero _
        go_wp2
        exact ⟨⟨x ++ x, z, q, rfl, by first | rfl | (congr 1; omega) | simp, rfl, by rw [hdbl]; omega, by omega, by rw [ByteArray.size_append]; omega⟩, by simp only [intOf]; omega⟩
    · obtain rfl : m = 0 := by omega
      go_wp2
      go_ret
      exact ⟨z, rfl, by omega, rfl⟩

set_option maxRecDepth 4000 in
set_option maxHeartbeats 2000000 in
/-- DrawLogFrame -/
theorem drawFrm (a : Option Addr) (len cap : Nat) (w : World) (h : Bytes w a len cap) :
    Calls Tryd.prog 8 #[.slice a len cap] w fun e w' => ∃ s : ByteArray, e = .returned (.string s) ∧ s.size ≤ 1100 ∧ Below w.heap.size w w' := by
  go_enter Tryd.func8, Tryd.ntmps8
  go_wp2_with fail
  refine (openR a len cap w h).mono ?_
  rintro e w1 ⟨rfl, hR1, hb1⟩
  go_wp2_with fail
  refine (pick 12 w.heap.size 0 w1 hR1 (by omega)).mono ?_
  rintro e w2 ⟨r, rfl, r0, r1, hR2, hg2⟩
  obtain ⟨n, rfl⟩ := Int.eq_ofNat_of_zero_le r0
  have hn : n ≤ 11 := by omega
  have HG2 := hide hg2
  have HR2 := hide hR2
  have HB1 := hide hb1
  clear r0 r1 hg2 hR1 hR2 hb1 h
  go_wp2
  go_loopw [4, 5] (fun t4 t5 wr => ∃ (s : ByteArray) (j q : Nat), t5 = .int .i64 j ∧ t4 = .string s ∧ s.size + 5 * j ≤ 55 ∧ q ≤ 20 - j ∧ Hid (Rd wr w.heap.size q) ∧ Hid (w1.grownBy wr (some w.heap.size)) ∧ j ≤ 11) (fun _ t5 _ => (intOf t5).toNat)
  case atStart => exact ⟨⟨#[]⟩, n, 1, rfl, rfl, by show 0 + 5 * n ≤ 55; omega, by omega, HR2, HG2, hn⟩
  case round =>
    obtain ⟨s, j, q, rfl, rfl, hs, hq, hR, hG, hj4⟩ := hrel
    clear HG2 HR2
    by_cases hj : 0 < j
    · have hji : (0 : Int) < (j : Int) := by omega
      have hw := wordOf (fun z => z.size ≤ 5) w.heap.size q wr.heap.size 0 6 6 (wr.alloc (.cells #[.string ⟨#[97]⟩, .string ⟨#[32]⟩, .string ⟨#[10]⟩, .string ⟨#[49, 50]⟩, .string ⟨#[99, 108, 111, 115, 101]⟩, .string ⟨#[255]⟩] 9)) ((unhide hR).kept (World.grownBy_alloc wr _ none) (by simp)) (by omega) (by omega) (by omega) (by have := (unhide hR).lt; omega) (new_words (fun z => z.size ≤ 5) wr [⟨#[97]⟩, ⟨#[32]⟩, ⟨#[10]⟩, ⟨#[49, 50]⟩, ⟨#[99, 108, 111, 115, 101]⟩, ⟨#[255]⟩] _ (by decide))
      have HW := hide hw
      clear hw
      go_wp2_with (fail)
      refine (unhide HW).mono ?_
      rintro e w4 ⟨z, rfl, hz, hR4, hg4⟩
      have HG4 := hide (grown_trans (unhide hG) (grown_trans (grownAl wr _ _) hg4))
      have HR4 := hide hR4
      have hz' : z.size ≤ 5 := hz
      clear hg4 hG HW hz hR4 hR
      go_wp2_with (fail)
      exact ⟨⟨s ++ z, j - 1, q + 1, by congr 1; omega, rfl, by rw [ByteArray.size_append]; omega, by omega, HR4, HG4, by omega⟩, by simp [intOf]; omega⟩
    · obtain rfl : j = 0 := by omega
      go_wp2_with fail
      refine (pick 30 w.heap.size q wr (unhide hR) (by omega)).mono ?_
      rintro x w7 ⟨z, rfl, z0, z1, hR7, hg7⟩
      have HR7 := hide hR7
      have HG7 := hide (grown_trans (unhide hG) hg7)
      clear hR hR7 hg7 hG
      by_cases hz : z = 0
      · subst hz
        go_wp2_with fail
        refine (pick 2 w.heap.size (q + 1) w7 (unhide HR7) (by omega)).mono ?_
        rintro x w8 ⟨i, rfl, i0, i1, hR8, hg8⟩
        have HG8 := hide (grown_trans (unhide HG7) hg8)
        obtain ⟨i, rfl⟩ := Int.eq_ofNat_of_zero_le i0
        have hi : (1000 : Int) + (i : Int) = ((1000 + i : Nat) : Int) := by omega
        have hM := many ⟨#[120]⟩ (1000 + i) w8 (by decide) (by omega)
        generalize 1000 + i = m at *
        have HM := hide hM
        clear hM hg8 hR8 HR7 HG7
        go_wp2_with fail
        refine (unhide HM).mono ?_
        rintro e w9 ⟨y, rfl, hy, rfl⟩
        go_wp2_with fail
        go_ret
        exact ⟨y, rfl, hy, below_of (unhide HB1) (Nat.le_refl _) (unhide HG8)⟩
      have hz' : (z == 0) = false := by simpa using hz
      clear hz
      go_wp2_with fail
      go_ret
      exact ⟨s, rfl, by omega, below_of (unhide HB1) (Nat.le_refl _) (unhide HG7)⟩
end Go.Proofs.YtpamdnkngedmaaaDoor.Draw
