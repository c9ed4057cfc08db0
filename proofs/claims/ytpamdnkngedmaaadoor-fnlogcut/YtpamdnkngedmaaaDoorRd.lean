/-
  The reader of drawn codes (spec.l18Rd): what its calls leave behind, and that each pick is in its range.
-/
import Derived.Test.YtpamdnkngedmaaaDoorProg
import Derived.WalkKit
import Derived.WalkLawsBesides
import Derived.Below
import Derived.Deep.QuietTactic
import Derived.BigQuiet
namespace Go.Proofs.YtpamdnkngedmaaaDoor.Draw
set_option linter.unusedVariables false
open Go.RowKit

theorem xor_i64 (a b : Nat) (ha : a < 9223372036854775808) (hb : b < 9223372036854775808) : bits .xor .i64 (a : Int) (b : Int) = ((a ^^^ b : Nat) : Int) := by
  have hx : a ^^^ b < 2 ^ 63 := Nat.xor_lt_two_pow (by omega) (by omega)
  have h1 : (BitVec.ofInt 64 (a : Int)).toNat = a := by
    rw [BitVec.ofInt_natCast, BitVec.toNat_ofNat]; exact Nat.mod_eq_of_lt (by omega)
  have h2 : (BitVec.ofInt 64 (b : Int)).toNat = b := by
    rw [BitVec.ofInt_natCast, BitVec.toNat_ofNat]; exact Nat.mod_eq_of_lt (by omega)
  show IntKind.i64.wrap ((BitVec.ofInt 64 (a : Int) ^^^ BitVec.ofInt 64 (b : Int)).toNat : Int) = _
  rw [BitVec.toNat_xor, h1, h2]
  simp [IntKind.wrap, IntKind.bits, IntKind.signed]
  omega
theorem xor_pos (a b : Int) (ha : 0 ≤ a) (ha' : a < 9223372036854775808) (hb : 0 ≤ b) (hb' : b < 9223372036854775808) : 0 ≤ bits .xor .i64 a b := by
  obtain ⟨m, rfl⟩ := Int.eq_ofNat_of_zero_le ha
  obtain ⟨n, rfl⟩ := Int.eq_ofNat_of_zero_le hb
  rw [xor_i64 m n (by omega) (by omega)]; omega

/-- In the world W block b is a reader that has taken p bytes: at most 2000 bytes, in an elder block. -/
def Rd (W : World) (b p : Nat) : Prop := ∃ (a : Option Addr) (len cap : Nat), len ≤ 2000 ∧ W.cell? ⟨b, 0, none⟩ = some (.slice a len cap) ∧ W.cell? ⟨b, 1, none⟩ = some (.int .i64 p) ∧ W.frozen? ⟨b, 1, none⟩ = false ∧
  (len = 0 ∨ ∃ blk off, a = some ⟨blk, off, none⟩ ∧ blk < b ∧ ∀ i, i < len → ∃ c : Int, 0 ≤ c ∧ c ≤ 255 ∧ W.cell? ⟨blk, off + i, none⟩ = some (.int .u8 c))

theorem pick_small (n : Int) (b p : Nat) (w : World) (a : Option Addr) (len cap : Nat) (hn : n < 1) (hp : p ≤ 1000000000) (h0 : w.cell? ⟨b, 0, none⟩ = some (.slice a len cap)) (h1 : w.cell? ⟨b, 1, none⟩ = some (.int .i64 p)) (hf : w.frozen? ⟨b, 1, none⟩ = false) :
    Calls Tryd.prog 20 #[.pointer (some ⟨b, 0, none⟩), .int .i64 n] w fun e w' => e = .returned (.int .i64 0) ∧ w' = w.setCell ⟨b, 1, none⟩ (.int .i64 (p + 1)) := by
  go_enter Tryd.func20, Tryd.ntmps20
  go_wp2
  go_ret
  exact ⟨rfl, rfl⟩

theorem pick_none (n : Int) (b p : Nat) (w : World) (a : Option Addr) (cap : Nat) (hn : ¬ n < 1) (hp : p ≤ 1000000000) (h0 : w.cell? ⟨b, 0, none⟩ = some (.slice a 0 cap)) (h1 : w.cell? ⟨b, 1, none⟩ = some (.int .i64 p)) (hf : w.frozen? ⟨b, 1, none⟩ = false) :
    Calls Tryd.prog 20 #[.pointer (some ⟨b, 0, none⟩), .int .i64 n] w fun e w' => e = .returned (.int .i64 0) ∧ w' = w.setCell ⟨b, 1, none⟩ (.int .i64 (p + 1)) := by
  go_enter Tryd.func20, Tryd.ntmps20
  go_wp2
  go_ret
  exact ⟨rfl, rfl⟩

theorem pick_byte (n : Int) (b p : Nat) (w : World) (blk off len cap : Nat) (c : Int) (hn : 1 ≤ n) (hp : p < len) (hl : len ≤ 2000) (h0 : w.cell? ⟨b, 0, none⟩ = some (.slice (some ⟨blk, off, none⟩) len cap)) (h1 : w.cell? ⟨b, 1, none⟩ = some (.int .i64 p)) (hf : w.frozen? ⟨b, 1, none⟩ = false)
    (hb : blk < b) (hc0 : 0 ≤ c) (hc1 : c ≤ 255) (hc : w.cell? ⟨blk, off + p, none⟩ = some (.int .u8 c)) :
    Calls Tryd.prog 20 #[.pointer (some ⟨b, 0, none⟩), .int .i64 n] w fun e w' => e = .returned (.int .i64 (c % n)) ∧ w' = w.setCell ⟨b, 1, none⟩ (.int .i64 (p + 1)) := by
  have hn' : ¬ n < 1 := by omega
  have hl' : ((len : Int) == 0) = false := by simp; omega
  go_enter Tryd.func20, Tryd.ntmps20
  go_wp2
  go_ret
  exact ⟨rfl, rfl⟩

theorem pick_mix (n : Int) (b p : Nat) (w : World) (blk off len cap : Nat) (c d : Int) (hn : 1 ≤ n) (hp : len ≤ p) (hp' : p ≤ 1000000000) (hl0 : 1 ≤ len) (hl : len ≤ 2000) (h0 : w.cell? ⟨b, 0, none⟩ = some (.slice (some ⟨blk, off, none⟩) len cap)) (h1 : w.cell? ⟨b, 1, none⟩ = some (.int .i64 p)) (hf : w.frozen? ⟨b, 1, none⟩ = false)
    (hb : blk < b) (hc0 : 0 ≤ c) (hc1 : c ≤ 255) (hc : w.cell? ⟨blk, off + p % len, none⟩ = some (.int .u8 c)) (hd0 : 0 ≤ d) (hd1 : d ≤ 255) (hd : w.cell? ⟨blk, off + (p * 7 + 3) % len, none⟩ = some (.int .u8 d)) :
    Calls Tryd.prog 20 #[.pointer (some ⟨b, 0, none⟩), .int .i64 n] w fun e w' => ∃ r, e = .returned (.int .i64 r) ∧ 0 ≤ r ∧ r < n ∧ ∃ k, w' = (w.setCell ⟨b, 1, none⟩ (.int .i64 (p + 1))).drewN k := by
  have hn' : ¬ n < 1 := by omega
  have hl' : ((len : Int) == 0) = false := by simp; omega
  have hl1 : (1 : Int) ≤ (len : Int) := by omega
  have x1 : 0 ≤ (p : Int) % (len : Int) := Int.emod_nonneg _ (by omega)
  have x2 : (p : Int) % (len : Int) < (len : Int) := Int.emod_lt_of_pos _ (by omega)
  have y1 : 0 ≤ ((p : Int) * 7 + 3) % (len : Int) := Int.emod_nonneg _ (by omega)
  have y2 : ((p : Int) * 7 + 3) % (len : Int) < (len : Int) := Int.emod_lt_of_pos _ (by omega)
  have z1 : 0 ≤ (p : Int) / (len : Int) := Int.ediv_nonneg (by omega) (by omega)
  have z2 : (p : Int) / (len : Int) ≤ (p : Int) := Int.ediv_le_self _ (by omega)
  have hX0 : 0 ≤ c * 131 + d * 1117 + (p : Int) * 29 + (p : Int) / (len : Int) * 53 := by omega
  have hX1 : c * 131 + d * 1117 + (p : Int) * 29 + (p : Int) / (len : Int) * 53 ≤ 1000000000000 := by omega
  go_enter Tryd.func20, Tryd.ntmps20
  go_wp2
  go_quiet (fail)
  generalize c * 131 + d * 1117 + (p : Int) * 29 + (p : Int) / (len : Int) * 53 = X at *
  clear x1 x2 y1 y2 z1 z2 hc hd hc0 hc1 hd0 hd1
  have q1 := xor_pos X (X / 64) hX0 (by omega) (by omega) (by omega)
  generalize hY : bits BinOp.xor IntKind.i64 X (X / 64) = Y at *
  go_wp2
  go_ret
  exact ⟨_, rfl, Int.emod_nonneg _ (by omega), Int.emod_lt_of_pos _ (by omega), _, rfl⟩

theorem Rd.lt {W : World} {b p : Nat} (h : Rd W b p) : b < W.heap.size := by
  obtain ⟨a, len, cap, hl, h0, h1, hf, hr⟩ := h
  refine Nat.lt_of_not_le fun hn => ?_
  have : W.heap[b]? = none := by simp; omega
  simp [World.cell?, this] at h0

/-- a step of the reader: its own block alone has turned -/
theorem grown_pick (w : World) (b k : Nat) (v : Value) : w.grownBy ((w.setCell ⟨b, 1, none⟩ v).drewN k) (some b) := by
  refine ⟨rfl, rfl, rfl, ?_, ?_⟩
  · simp [World.drewN]
  · intro j hj hne
    exact Below.heap_setCell w ⟨b, 1, none⟩ v j (fun e => hne (by rw [e]))

theorem Rd.step {w : World} {b p : Nat} (h : Rd w b p) (k : Nat) : Rd ((w.setCell ⟨b, 1, none⟩ (.int .i64 (p + 1))).drewN k) b (p + 1) := by
  obtain ⟨a, len, cap, hl, h0, h1, hf, hr⟩ := h
  refine ⟨a, len, cap, hl, ?_, ?_, ?_, ?_⟩
  · show (w.setCell ⟨b, 1, none⟩ (.int .i64 (p + 1))).cell? _ = _
    go_simp
  · show (w.setCell ⟨b, 1, none⟩ (.int .i64 (p + 1))).cell? _ = _
    go_simp
  · show (w.setCell ⟨b, 1, none⟩ (.int .i64 (p + 1))).frozen? _ = _
    go_simp
  · rcases hr with h | ⟨blk, off, e, hb, hc⟩
    · exact .inl h
    · refine .inr ⟨blk, off, e, hb, fun i hi => ?_⟩
      obtain ⟨c, c0, c1, hc⟩ := hc i hi
      refine ⟨c, c0, c1, ?_⟩
      show (w.setCell ⟨b, 1, none⟩ (.int .i64 (p + 1))).cell? _ = _
      have : blk ≠ b := by omega
      go_simp

/-- pick: a number of its range; the reader is one byte on; all else is as it was -/
theorem pick (n : Int) (b p : Nat) (w : World) (hR : Rd w b p) (hp : p ≤ 1000000000) :
    Calls Tryd.prog 20 #[.pointer (some ⟨b, 0, none⟩), .int .i64 n] w fun e w' => ∃ r, e = .returned (.int .i64 r) ∧ 0 ≤ r ∧ (r < n ∨ r = 0) ∧ Rd w' b (p + 1) ∧ w.grownBy w' (some b) := by
  have hS := fun k => hR.step k
  obtain ⟨a, len, cap, hl, h0, h1, hf, hr⟩ := hR
  by_cases hn : n < 1
  · refine (pick_small n b p w a len cap hn hp h0 h1 hf).mono ?_
    rintro e w' ⟨rfl, rfl⟩
    exact ⟨0, rfl, by omega, .inr rfl, hS 0, grown_pick w b 0 _⟩
  · rcases hr with rfl | ⟨blk, off, rfl, hb, hc⟩
    · refine (pick_none n b p w a cap hn hp h0 h1 hf).mono ?_
      rintro e w' ⟨rfl, rfl⟩
      exact ⟨0, rfl, by omega, .inr rfl, hS 0, grown_pick w b 0 _⟩
    · by_cases hlt : p < len
      · obtain ⟨c, c0, c1, hc⟩ := hc p hlt
        refine (pick_byte n b p w blk off len cap c (by omega) hlt hl h0 h1 hf hb c0 c1 hc).mono ?_
        rintro e w' ⟨rfl, rfl⟩
        exact ⟨_, rfl, Int.emod_nonneg _ (by omega), .inl (Int.emod_lt_of_pos _ (by omega)), hS 0, grown_pick w b 0 _⟩
      · by_cases hz : len = 0
        · subst hz
          refine (pick_none n b p w _ cap hn hp h0 h1 hf).mono ?_
          rintro e w' ⟨rfl, rfl⟩
          exact ⟨0, rfl, by omega, .inr rfl, hS 0, grown_pick w b 0 _⟩
        · obtain ⟨c, c0, c1, hc1⟩ := hc (p % len) (Nat.mod_lt _ (by omega))
          obtain ⟨d, d0, d1, hd1⟩ := hc ((p * 7 + 3) % len) (Nat.mod_lt _ (by omega))
          refine (pick_mix n b p w blk off len cap c d (by omega) (by omega) hp (by omega) hl h0 h1 hf hb c0 c1 hc1 d0 d1 hd1).mono ?_
          rintro e w' ⟨r, rfl, r0, r1, k, rfl⟩
          exact ⟨r, rfl, r0, .inl r1, hS k, grown_pick w b k _⟩
end Go.Proofs.YtpamdnkngedmaaaDoor.Draw
