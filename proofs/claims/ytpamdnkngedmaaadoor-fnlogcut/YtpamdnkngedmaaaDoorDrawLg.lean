/-
  DrawLogRead: a log of frames, one in two torn.
-/
import Derived.Test.YtpamdnkngedmaaaDoorFrS
import Derived.Test.YtpamdnkngedmaaaDoorRdW
import Derived.Deep.RegionHeld3
namespace Go.Proofs.YtpamdnkngedmaaaDoor.Draw
set_option linter.unusedVariables false
open Go.RowKit
open Fr (hide unhide frT frB_len frT_of frT_no bytesOf_size frameS toL)

theorem grownAl (w : World) (o : Obj) (r : Option Nat) : w.grownBy (w.alloc o) r := World.grownBy_alloc w o r
theorem grownDr {a b : World} {r : Option Nat} (h : a.grownBy b r) : a.grownBy b.drew r := ⟨h.os, h.tape, h.output, h.size, h.block⟩
theorem frT_size (z : ByteArray) : (Num.bytesOf (frT z.data.toList)).size ≤ 1050 := by
  rw [bytesOf_size]
  by_cases h : z.data.toList.length ≤ 1000
  · rw [frT_of h]; exact frB_len h
  · rw [frT_no h]; simp

set_option maxRecDepth 4000 in
set_option maxHeartbeats 4000000 in
theorem drawLog (a : Option Addr) (len cap : Nat) (w : World) (h : Bytes w a len cap) :
    Calls Tryd.prog 13 #[.slice a len cap] w fun e w' => ∃ s : ByteArray, e = .returned (.string s) ∧ s.size ≤ 10000 ∧ Below w.heap.size w w' := by
  go_enter Tryd.func13, Tryd.ntmps13
  go_wp2_with fail
  refine (openR a len cap w h).mono ?_
  rintro e w1 ⟨rfl, hR1, hb1⟩
  go_wp2_with fail
  refine (pick 5 w.heap.size 0 w1 hR1 (by omega)).mono ?_
  rintro e w2 ⟨r, rfl, r0, r1, hR2, hg2⟩
  obtain ⟨n, rfl⟩ := Int.eq_ofNat_of_zero_le r0
  have hn : n ≤ 4 := by omega
  have HG2 := hide hg2
  have HR2 := hide hR2
  have HB1 := hide hb1
  clear r0 r1 hg2 hR1 hR2 hb1 h
  go_wp2
  go_loopw [4, 5] (fun t4 t5 wr => ∃ (s : ByteArray) (j q : Nat), t5 = .int .i64 j ∧ t4 = .string s ∧ s.size + 1050 * j ≤ 4200 ∧ q ≤ 10 - j ∧ Hid (Rd wr w.heap.size q) ∧ Hid (w1.grownBy wr (some w.heap.size)) ∧ j ≤ 4) (fun _ t5 _ => (intOf t5).toNat)
  case atStart => exact ⟨⟨#[]⟩, n, 1, rfl, rfl, by simp [ByteArray.size]; omega, by omega, HR2, HG2, hn⟩
  case round =>
    obtain ⟨s, j, q, rfl, rfl, hs, hq, hR, hG, hj4⟩ := hrel
    clear HG2 HR2
    by_cases hj : 0 < j
    · have hji : (0 : Int) < (j : Int) := by omega
      have hw := wordOf (fun z => z.size ≤ 11) w.heap.size q wr.heap.size 0 5 5 (wr.alloc (.cells #[.string ⟨#[]⟩, .string ⟨#[97]⟩, .string ⟨#[112, 97, 121, 32, 49, 48, 48]⟩, .string ⟨#[117, 115, 101, 32, 101, 32, 103, 98, 32, 51]⟩, .string ⟨#[120, 10, 121]⟩] 9)) ((unhide hR).kept (World.grownBy_alloc wr _ none) (by simp)) (by omega) (by omega) (by omega) (by have := (unhide hR).lt; omega) (new_words (fun z => z.size ≤ 11) wr [⟨#[]⟩, ⟨#[97]⟩, ⟨#[112, 97, 121, 32, 49, 48, 48]⟩, ⟨#[117, 115, 101, 32, 101, 32, 103, 98, 32, 51]⟩, ⟨#[120, 10, 121]⟩] _ (by decide))
      have HW := hide hw
      clear hw
      go_wp2_with (fail)
      refine (unhide HW).mono ?_
      rintro e w4 ⟨z, rfl, hz, hR4, hg4⟩
      have HG4 := hide (grown_trans (unhide hG) (grown_trans (grownAl wr _ _) hg4))
      have HF := hide (frameS z)
      have hfz := frT_size z
      generalize Num.bytesOf (frT z.data.toList) = F at *
      clear hg4 hG HW
      go_wp2_with (fail)
      refine (unhide HF _ (by have hz' : z.size ≤ 11 := hz; unfold maxLen; omega)).mono ?_
      rintro e w5 ⟨rfl, hb5⟩
      have HR5 := hide (hR4.kept (grown_of_below hb5 none) (by simp))
      have HG5 := hide (grown_trans (unhide HG4) (grown_of_below hb5 (some w.heap.size)))
      clear hb5 hR4 HG4 HF hR
      go_wp2_with (fail)
      exact ⟨⟨s ++ F, j - 1, q + 1, by congr 1; omega, rfl, by rw [ByteArray.size_append]; omega, by omega, HR5, HG5, by omega⟩, by simp [intOf]; omega⟩
    · obtain rfl : j = 0 := by omega
      by_cases hs0 : s.size = 0
      · go_wp2_with fail
        go_ret
        exact ⟨s, rfl, by omega, below_of (unhide HB1) (Nat.le_refl _) (unhide hG)⟩
      have hs1 : ((s.size : Int) == 0) = false := beq_eq_false_iff_ne.2 (by omega)
      have hs2 : (1 : Int) ≤ (s.size : Int) := by omega
      go_wp2_with fail
      refine (pick 2 w.heap.size q wr (unhide hR) (by omega)).mono ?_
      rintro x w7 ⟨z, rfl, z0, z1, hR7, hg7⟩
      have HR7 := hide hR7
      have HG7 := hide (grown_trans (unhide hG) hg7)
      clear hR hR7 hg7 hG
      by_cases hz : z = 0
      · subst hz
        go_wp2_with fail
        go_ret
        exact ⟨s, rfl, by omega, below_of (unhide HB1) (Nat.le_refl _) (unhide HG7)⟩
      have hz' : (z == 0) = false := by simpa using hz
      clear hz
      go_wp2_with fail
      refine (pick (s.size : Int) w.heap.size (q + 1) w7 (unhide HR7) (by omega)).mono ?_
      rintro x w8 ⟨i, rfl, i0, i1, hR8, hg8⟩
      have i1' : i < (s.size : Int) := by omega
      have HG8 := hide (grown_trans (unhide HG7) hg8)
      have HGD := hide (grownDr (grownAl w8 (.cells #[.string ⟨#[]⟩, .string ⟨#[48]⟩, .string ⟨#[32]⟩, .string ⟨#[120]⟩, .string ⟨#[10]⟩] 9) (some w.heap.size)))
      have HW := hide (wordOf (fun z => z.size ≤ 1) w.heap.size (q + 1 + 1) w8.heap.size 0 5 5 (w8.alloc (.cells #[.string ⟨#[]⟩, .string ⟨#[48]⟩, .string ⟨#[32]⟩, .string ⟨#[120]⟩, .string ⟨#[10]⟩] 9)).drew (hR8.kept (grownDr (grownAl w8 _ none)) (by simp)) (by omega) (by omega) (by omega) (by have := hR8.lt; omega) (new_words (fun z => z.size ≤ 1) w8 [⟨#[]⟩, ⟨#[48]⟩, ⟨#[32]⟩, ⟨#[120]⟩, ⟨#[10]⟩] _ (by decide)))
      have HP := hide (fun (W : World) hW => pick 2 w.heap.size (q + 1 + 1 + 1) W hW (by omega))
      obtain ⟨n, rfl⟩ := Int.eq_ofNat_of_zero_le i0
      clear HR7 HG7 hR8 hg8 i1
      have j0 : (0 : Int) ≤ (n : Int) := by omega
      have j1 : (n : Int) ≤ (s.size : Int) := by omega
      go_wp2_with fail
      go_region_held3 (fun _ => True) (trivial)
        (first | (go_at_call 21; refine (unhide HW).mono ?_; rintro x w9 ⟨y, rfl, hy, hR9, hg9⟩; have HG9 := hide (grown_trans (unhide HG8) (grown_trans (unhide HGD) hg9)); have hy1 : y.size ≤ 1 := hy; have hy2 : ¬ 9223372036854775807 < min n s.size + y.size := (by omega); have hy3 : ¬ 9223372036854775807 < n + y.size := (by omega); clear hg9 hy) | (go_at_call 20; refine (unhide HP _ hR9).mono ?_; rintro x w10 ⟨c, rfl, c0, c1, hR10, hg10⟩; have HG10 := hide (grown_trans (unhide HG9) hg10); have c2 : c ≤ 1 := (by omega); obtain ⟨c', rfl⟩ := Int.eq_ofNat_of_zero_le c0; obtain ⟨D, hD⟩ : ∃ D : Nat, (D : Int) = (n : Int) + (c' : Int) := ⟨n + c', by simp⟩; have hw : IntKind.i64.wrap ((n : Int) + (c' : Int)) = (D : Int) := (by rw [hD]; exact IntWalk.i64_in _ ⟨by omega, by omega⟩); have d1 : (D : Int) ≤ (s.size : Int) := (by omega); have d0 : (0 : Int) ≤ (D : Int) := (by omega); have dd : D ≤ s.size := (by omega); have hd3 : ¬ 9223372036854775807 < min n s.size + y.size + (s.size - D) := (by omega); have hd4 : ¬ 9223372036854775807 < n + y.size + (s.size - D) := (by omega); clear hD; clear c1 hg10))
      go_wp2
      go_ret
      have hmin := Nat.min_le_right n s.size
      exact ⟨_, rfl, by simp only [ByteArray.size_append, ByteArray.size_extract]; omega, below_of (unhide HB1) (Nat.le_refl _) (unhide HG10)⟩
end Go.Proofs.YtpamdnkngedmaaaDoor.Draw
