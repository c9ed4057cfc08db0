/-
  Drawn arguments of SealMake and SealRead.
-/
import Derived.Test.YtlmdpfhabiakmaaGreatDoorDrawTok
import Derived.Test.YtlmdpfhabiakmaaGreatDoorRdW
import Derived.Deep.RegionHeld3
namespace Go.Proofs.YtlmdpfhabiakmaaGreatDoor.Tok
set_option linter.unusedVariables false
open Go.RowKit
open Num (bytesOf)
open Mac (hide unhide below_trans macL macL_bd)
open Strs hiding hide unhide below_trans
open Boxes (At box1 box2)
open Draw (Rd pick num new_nums openR Bytes grown_trans below_of grown_of_below wordOf new_words)

/-- drawn: a key, a tenant, a role, a time, an epoch -/
def MakeD (t r u e : Int) : Prop := (-1 ≤ t ∧ t ≤ 11) ∧ (0 ≤ r ∧ r ≤ 4) ∧ isE u ∧ isE e

set_option maxHeartbeats 1000000 in
theorem drawMake (a : Option Addr) (len cap : Nat) (w : World) (h : Bytes w a len cap) :
    Calls Tryz.prog 4 #[.slice a len cap] w fun x w' => ∃ k t r u e : Int, x = .returned (.tuple #[.int .i64 k, .int .i64 t, .int .i64 r, .int .i64 u, .int .i64 e]) ∧ MakeD t r u e ∧ Below w.heap.size w w' := by
  go_enter Tryz.func4, Tryz.ntmps4
  go_wp2_with fail
  refine (openR a len cap w h).mono ?_
  rintro x w1 ⟨rfl, hR1, hb1⟩
  go_wp2_with fail
  refine (pick 2000 w.heap.size 0 w1 hR1 (by omega)).mono ?_
  rintro x w2 ⟨k, rfl, k0, k1, hR2, hg2⟩
  clear k0 k1
  go_wp2_with fail
  refine (pick 12 w.heap.size 1 w2 hR2 (by omega)).mono ?_
  rintro x w3 ⟨t, rfl, t0, t1, hR3, hg3⟩
  have t2 : t ≤ 11 := by omega
  clear t1
  go_wp2_with fail
  refine (pick 5 w.heap.size 2 w3 hR3 (by omega)).mono ?_
  rintro x w4 ⟨r, rfl, r0, r1, hR4, hg4⟩
  have r2 : r ≤ 4 := by omega
  clear r1
  go_wp2_with fail
  refine (num isE w.heap.size 3 w4.heap.size 0 6 6 _ (hR4.kept (grown_alloc w4 _ none) (by simp)) (by omega) (by omega) (by omega) (by have := hR4.lt; omega) (new_nums isE w4 [0, 5, 100, 1000000, 1000001, -1] _ (by unfold isE; simp))).mono ?_
  rintro x w5 ⟨u, rfl, hu, hR5, hg5⟩
  have hg5' := grown_trans (grown_alloc w4 _ _) hg5
  go_wp2_with fail
  refine (num isE w.heap.size 4 w5.heap.size 0 5 5 _ (hR5.kept (grown_alloc w5 _ none) (by simp)) (by omega) (by omega) (by omega) (by have := hR5.lt; omega) (new_nums isE w5 [0, 1, 2, -1, 1000001] _ (by unfold isE; simp))).mono ?_
  rintro x w6 ⟨e, rfl, he, hR6, hg6⟩
  have hg6' := grown_trans (grown_alloc w5 _ _) hg6
  have hB := below_of hb1 (Nat.le_refl _) (grown_trans hg2 (grown_trans hg3 (grown_trans hg4 (grown_trans hg5' hg6'))))
  clear hg2 hg3 hg4 hg5 hg6 hg5' hg6' hR1 hR2 hR3 hR4 hR5 hR6
  go_wp2_with fail
  exact bodyPost_ret (v := .tuple #[.int .i64 k, .int .i64 (t - 1), .int .i64 r, .int .i64 u, .int .i64 e]) (by simp [results, Tryz.results4, go_sem]) rfl ⟨k, t - 1, r, u, e, rfl, ⟨by omega, by omega, hu, he⟩, hB⟩

def isW1 (z : ByteArray) : Prop := z.size ≤ 1

set_option maxHeartbeats 1000000 in
set_option maxRecDepth 20000 in
theorem drawReadT (a : Option Addr) (len cap : Nat) (w : World) (h : Bytes w a len cap) :
    Calls Tryz.prog 7 #[.slice a len cap] w fun x w' => ∃ s : ByteArray, x = .returned (.string s) ∧ s.size ≤ 300 ∧ Below w.heap.size w w' := by
  go_enter Tryz.func7, Tryz.ntmps7
  go_wp2_with fail
  refine (openR a len cap w h).mono ?_
  rintro x w1 ⟨rfl, hR1, hb1⟩
  go_wp2_with fail
  refine (pick 100 w.heap.size 0 w1 hR1 (by omega)).mono ?_
  rintro x w2 ⟨k, rfl, k0, k1, hR2, hg2⟩
  have HG2 := hide hg2
  clear k0 k1 hR1 hg2
  go_wp2_with fail
  refine (pick 4 w.heap.size 1 w2 hR2 (by omega)).mono ?_
  rintro x w3 ⟨t, rfl, t0, t1, hR3, hg3⟩
  have t2 : t ≤ 3 := by omega
  have HG3 := hide (grown_trans (unhide HG2) hg3)
  clear t1 hR2 hg3 HG2
  go_wp2_with fail
  refine (pick 3 w.heap.size 2 w3 hR3 (by omega)).mono ?_
  rintro x w4 ⟨ep, rfl, e0, e1, hR4, hg4⟩
  have e2 : ep ≤ 2 := by omega
  have HG4 := hide (grown_trans (unhide HG3) hg4)
  clear e1 hR3 hg4 HG3
  go_wp2_with fail
  refine (drawToken w.heap.size 3 k t ep w4 hR4 (by omega) (by unfold i64; omega) (by unfold isE; omega)).mono ?_
  rintro x w5 ⟨r, u, e, m, rfl, hT, ⟨q, hq, hR5⟩, hg5⟩
  have HG5 := hide (grown_trans (unhide HG4) hg5)
  have HT := hide hT
  clear hR4 hg5 HG4 hT
  go_wp2_with fail
  refine (textS r u e m _).mono ?_
  rintro x w6 ⟨rfl, hb6⟩
  have hsz : (bytesOf (textT r u e m)).size ≤ 87 := by
    obtain ⟨h1, h2, h3, h4⟩ := unhide HT
    show (textT r u e m).toArray.size ≤ 87
    rw [List.size_toArray]
    unfold textT
    split
    · exact pt_len h1.i h2.i h3.i h4.i
    · simp
  have HR6 := hide (hR5.kept (grown_of_below hb6 none) (by simp))
  have HG6 := hide (grown_trans (unhide HG5) (grown_of_below hb6 (some w.heap.size)))
  have HB := hide (below_of hb1 (Nat.le_refl _) (unhide HG6))
  clear hR5 hb6 HG5
  generalize bytesOf (textT r u e m) = s at *
  by_cases hs0 : s.size = 0
  · go_wp2_with fail
    go_ret
    exact ⟨s, rfl, by omega, unhide HB⟩
  have hs1 : ((s.size : Int) == 0) = false := beq_eq_false_iff_ne.2 (by omega)
  have hs2 : (1 : Int) ≤ (s.size : Int) := by omega
  go_wp2_with fail
  refine (pick 2 w.heap.size q w6 (unhide HR6) (by omega)).mono ?_
  rintro x w7 ⟨z, rfl, z0, z1, hR7, hg7⟩
  have HR7 := hide hR7
  have HG7 := hide (grown_trans (unhide HG6) hg7)
  clear HR6 HB hR7 hg7 HG6
  by_cases hz : z = 0
  · subst hz
    go_wp2_with fail
    go_ret
    exact ⟨s, rfl, by omega, below_of hb1 (Nat.le_refl _) (unhide HG7)⟩
  have hz' : (z == 0) = false := by simpa using hz
  clear hz
  go_wp2_with fail
  refine (pick (s.size : Int) w.heap.size (q + 1) w7 (unhide HR7) (by omega)).mono ?_
  rintro x w8 ⟨i, rfl, i0, i1, hR8, hg8⟩
  have i1' : i < (s.size : Int) := by omega
  have HG8 := hide (grown_trans (unhide HG7) hg8)
  have HGD := hide (grown_drew (grown_alloc w8 (.cells #[.string ⟨#[]⟩, .string ⟨#[48]⟩, .string ⟨#[46]⟩, .string ⟨#[45]⟩, .string ⟨#[49]⟩, .string ⟨#[32]⟩] 9) (some w.heap.size)))
  have HW := hide (wordOf isW1 w.heap.size (q + 1 + 1) w8.heap.size 0 6 6 (w8.alloc (.cells #[.string ⟨#[]⟩, .string ⟨#[48]⟩, .string ⟨#[46]⟩, .string ⟨#[45]⟩, .string ⟨#[49]⟩, .string ⟨#[32]⟩] 9)).drew (hR8.kept (grown_drew (grown_alloc w8 _ none)) (by simp)) (by omega) (by omega) (by omega) (by have := hR8.lt; omega) (new_words isW1 w8 [⟨#[]⟩, ⟨#[48]⟩, ⟨#[46]⟩, ⟨#[45]⟩, ⟨#[49]⟩, ⟨#[32]⟩] _ (by unfold isW1; decide)))
  have HP := hide (fun (W : World) hW => pick 2 w.heap.size (q + 1 + 1 + 1) W hW (by omega))
  obtain ⟨n, rfl⟩ := Int.eq_ofNat_of_zero_le i0
  clear HR7 HG7 hR8 hg8 i1
  have j0 : (0 : Int) ≤ (n : Int) := by omega
  have j1 : (n : Int) ≤ (s.size : Int) := by omega
  go_wp2_with fail
  go_region_held3 (fun _ => True) (trivial)
    (first | (go_at_call 23; refine (unhide HW).mono ?_; rintro x w9 ⟨y, rfl, hy, hR9, hg9⟩; have HG9 := hide (grown_trans (unhide HG8) (grown_trans (unhide HGD) hg9)); have hy1 : y.size ≤ 1 := hy; have hy2 : ¬ 9223372036854775807 < min n s.size + y.size := (by omega); have hy3 : ¬ 9223372036854775807 < n + y.size := (by omega); clear hg9 hy) | (go_at_call 13; refine (unhide HP _ hR9).mono ?_; rintro x w10 ⟨c, rfl, c0, c1, hR10, hg10⟩; have HG10 := hide (grown_trans (unhide HG9) hg10); have c2 : c ≤ 1 := (by omega); obtain ⟨c', rfl⟩ := Int.eq_ofNat_of_zero_le c0; obtain ⟨D, hD⟩ : ∃ D : Nat, (D : Int) = (n : Int) + (c' : Int) := ⟨n + c', by simp⟩; have hw : IntKind.i64.wrap ((n : Int) + (c' : Int)) = (D : Int) := (by rw [hD]; exact IntWalk.i64_in _ ⟨by omega, by omega⟩); have d1 : (D : Int) ≤ (s.size : Int) := (by omega); have d0 : (0 : Int) ≤ (D : Int) := (by omega); have dd : D ≤ s.size := (by omega); have hd3 : ¬ 9223372036854775807 < min n s.size + y.size + (s.size - D) := (by omega); have hd4 : ¬ 9223372036854775807 < n + y.size + (s.size - D) := (by omega); clear hD; clear c1 hg10))
  go_wp2
  go_ret
  exact ⟨_, rfl, by simp [ByteArray.size_append, ByteArray.size_extract]; omega, below_of hb1 (Nat.le_refl _) (unhide HG10)⟩
end Go.Proofs.YtlmdpfhabiakmaaGreatDoor.Tok
