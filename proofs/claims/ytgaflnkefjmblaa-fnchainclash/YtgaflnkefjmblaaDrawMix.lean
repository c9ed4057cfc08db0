/-
  A drawn key and text (DrawChainMix).
-/
import Derived.Test.YtgaflnkefjmblaaRd2
import Derived.Laws.IdiomStrings
namespace Go.Proofs.Ytgaflnkefjmblaa.Draw
set_option linter.unusedVariables false
open Go.RowKit

/-- a string of one byte -/
theorem conv1 (w : World) (c : Int) (h0 : 0 ≤ c) (h1 : c ≤ 255) : (convert 22 9 (.slice (some ⟨w.heap.size, 0, none⟩) 1 1)).run Try.prog (w.alloc (.cells #[.int .u8 c] 5)) = .ok (.string ⟨#[UInt8.ofNat c.toNat]⟩) (w.alloc (.cells #[.int .u8 c] 5)) := by
  have h := run_convert_bytes_back (P := Try.prog) (w.alloc (.cells #[.int .u8 c] 5)) 22 9 5 ⟨w.heap.size, 0, none⟩ 1 [UInt8.ofNat c.toNat] Try.underlying22 Try.underlying5 Try.underlying9 ?_
  · exact h
  · intro j hj
    obtain rfl : j = 0 := by simpa using hj
    have e : ((UInt8.ofNat c.toNat).toNat : Int) = c := by
      simp; omega
    rw [Addr.add_lit]
    show (w.alloc _).cell? _ = some (.int .u8 ((UInt8.ofNat c.toNat).toNat : Int))
    rw [e]
    have e1 := (MapKept.heap_alloc w (.cells #[.int .u8 c] 5)).1
    simp only [World.cell?]
    rw [e1]; rfl

def isHead (z : Int) : Prop := -4 ≤ z ∧ z ≤ 65521

set_option maxHeartbeats 1000000 in
theorem drawMix (a : Option Addr) (len cap : Nat) (w : World) (h : Bytes w a len cap) :
    Calls Try.prog 19 #[.slice a len cap] w fun e w' => ∃ (k : Int) (s : ByteArray), e = .returned (.tuple #[.int .i64 k, .string s]) ∧ isHead k ∧ s.size ≤ 9 ∧ Below w.heap.size w w' := by
  go_enter Try.func19, Try.ntmps19
  go_wp2_with fail
  refine (openR a len cap w h).mono ?_
  rintro e w1 ⟨rfl, hR1, hb1⟩
  go_wp2_with fail
  refine (num isHead w.heap.size 0 w1.heap.size 0 6 6 _ (hR1.kept (World.grownBy_alloc w1 _ none) (by simp)) (by omega) (by omega) (by omega) (by have := hR1.lt; omega) (new_nums isHead w1 [0, 1, 27182, 65520, 65521, -4] _ (by unfold isHead; simp))).mono ?_
  rintro e w2 ⟨k, rfl, hk, hR2, hg2⟩
  go_wp2_with fail
  refine (pick 10 w.heap.size (0 + 1) w2 hR2 (by omega)).mono ?_
  rintro e w3 ⟨r, rfl, r0, r1, hR3, hg3⟩
  obtain ⟨n, rfl⟩ := Int.eq_ofNat_of_zero_le r0
  have hn : n ≤ 9 := by omega
  have hg := below_of hb1 (Nat.le_refl _) (grown_trans (World.grownBy_alloc w1 _ _) (grown_trans hg2 hg3))
  clear r0 r1 hg2 hg3 hb1 hR1 hR2
  go_wp2
  go_loopw [6, 7] (fun t6 t7 w' => ∃ (x : ByteArray) (j p : Nat), t7 = .int .i64 j ∧ t6 = .string x ∧ x.size + j ≤ 9 ∧ p + j ≤ 100 ∧ Rd w' w.heap.size p ∧ Below w.heap.size w w') (fun _ t7 _ => (intOf t7).toNat)
  case atStart => exact ⟨_, n, 0 + 1 + 1, rfl, rfl, by show 0 + n ≤ 9; omega, by omega, hR3, hg⟩
  case round =>
    obtain ⟨x, j, p, rfl, rfl, hx, hpj, hR, hB⟩ := hrel
    by_cases hj : 0 < j
    · have hji : (0 : Int) < (j : Int) := by omega
      go_wp2_with fail
      refine (pick 256 w.heap.size p wr hR (by omega)).mono ?_
      rintro e w4 ⟨c, rfl, c0, c1, hR4, hg4⟩
      have c2 : c ≤ 255 := by omega
      have hcv := conv1 w4 c c0 c2
      clear c1
      go_wp2
      refine ⟨⟨_, j - 1, p + 1, by congr 1; omega, rfl, ?_, by omega, hR4.kept (World.grownBy_alloc w4 _ none) (by simp), (below_of hB (Nat.le_refl _) hg4).alloc (Nat.le_trans hB.size hg4.size) _⟩, by simp [intOf]; omega⟩
      rw [ByteArray.size_append]
      show x.size + 1 + (j - 1) ≤ 9
      omega
    · obtain rfl : j = 0 := by omega
      go_wp2
      go_ret2
      exact ⟨k, x, rfl, hk, by omega, hB⟩
end Go.Proofs.Ytgaflnkefjmblaa.Draw
