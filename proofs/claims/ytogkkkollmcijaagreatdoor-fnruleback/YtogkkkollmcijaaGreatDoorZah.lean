/-
  Texts of this proof laid together, in build order; each says of itself what it holds.
-/
import Derived.Test.YtogkkkollmcijaaGreatDoorProg
import Derived.WalkKit
import Derived.WalkLawsBesides
import Derived.Below
import Derived.Deep.QuietTactic
import Derived.BigQuiet
import Derived.Deep.OwnRows
import Derived.Deep.AppendLies
import Derived.Deep.RegionHeldLaw
import Derived.OwnWalk
import Derived.WalkMore
import Derived.Outline
import Derived.Deep.RegionHeld3
import Derived.Lib.Strings
import Derived.Test.YtogkkkollmcijaaGreatDoorZab
section
/-
  The reader of drawn codes (spec.l18Rd): what its calls leave behind, and that each pick is in its range.
-/
namespace Go.Proofs.YtogkkkollmcijaaGreatDoor.Draw
set_option linter.unusedVariables false
open Go.RowKit

theorem xor_i64 (a b : Nat) (ha : a < 9223372036854775808) (hb : b < 9223372036854775808) : bits .xor .i64 (a : Int) (b : Int) = ((a ^^^ b : Nat) : Int) := by
  have hx : a ^^^ b < 2 ^ 63 := Nat.xor_lt_two_pow (by omega) (by omega)
  have h1 : (BitVec.ofInt 64 (a : Int)).toNat = a := by
    rw [BitVec.ofInt_natCast, BitVec.toNat_ofNat]; exact Nat.mod_eq_of_lt (by omega)
  have h2 : (BitVec.ofInt 64 (b : Int)).toNat = b := by
    rw [BitVec.ofInt_natCast, BitVec.toNat_ofNat]; exact Nat.mod_eq_of_lt (by omega)
  show IntKind.i64.wrap ((BitVec.ofInt 64 (a : Int) ^^^ BitVec.ofInt 64 (b : Int)).toNat : Int) = _
  rw [BitVec.toNat_xor, h1, h2]
  simp [IntKind.wrap, IntKind.bits, IntKind.signed]
  omega
theorem xor_pos (a b : Int) (ha : 0 ≤ a) (ha' : a < 9223372036854775808) (hb : 0 ≤ b) (hb' : b < 9223372036854775808) : 0 ≤ bits .xor .i64 a b := by
  obtain ⟨m, rfl⟩ := Int.eq_ofNat_of_zero_le ha
  obtain ⟨n, rfl⟩ := Int.eq_ofNat_of_zero_le hb
  rw [xor_i64 m n (by omega) (by omega)]; omega

/-- In the world W block b is a reader that has taken p bytes: at most 2000 bytes, in an elder block. -/
def Rd (W : World) (b p : Nat) : Prop := ∃ (a : Option Addr) (len cap : Nat), len ≤ 2000 ∧ W.cell? ⟨b, 0, none⟩ = some (.slice a len cap) ∧ W.cell? ⟨b, 1, none⟩ = some (.int .i64 p) ∧ W.frozen? ⟨b, 1, none⟩ = false ∧
  (len = 0 ∨ ∃ blk off, a = some ⟨blk, off, none⟩ ∧ blk < b ∧ ∀ i, i < len → ∃ c : Int, 0 ≤ c ∧ c ≤ 255 ∧ W.cell? ⟨blk, off + i, none⟩ = some (.int .u8 c))

theorem pick_small (n : Int) (b p : Nat) (w : World) (a : Option Addr) (len cap : Nat) (hn : n < 1) (hp : p ≤ 1000000000) (h0 : w.cell? ⟨b, 0, none⟩ = some (.slice a len cap)) (h1 : w.cell? ⟨b, 1, none⟩ = some (.int .i64 p)) (hf : w.frozen? ⟨b, 1, none⟩ = false) :
    Calls Tryz.prog 20 #[.pointer (some ⟨b, 0, none⟩), .int .i64 n] w fun e w' => e = .returned (.int .i64 0) ∧ w' = w.setCell ⟨b, 1, none⟩ (.int .i64 (p + 1)) := by
  go_enter Tryz.func20, Tryz.ntmps20
  go_wp2
  go_ret
  exact ⟨rfl, rfl⟩

theorem pick_none (n : Int) (b p : Nat) (w : World) (a : Option Addr) (cap : Nat) (hn : ¬ n < 1) (hp : p ≤ 1000000000) (h0 : w.cell? ⟨b, 0, none⟩ = some (.slice a 0 cap)) (h1 : w.cell? ⟨b, 1, none⟩ = some (.int .i64 p)) (hf : w.frozen? ⟨b, 1, none⟩ = false) :
    Calls Tryz.prog 20 #[.pointer (some ⟨b, 0, none⟩), .int .i64 n] w fun e w' => e = .returned (.int .i64 0) ∧ w' = w.setCell ⟨b, 1, none⟩ (.int .i64 (p + 1)) := by
  go_enter Tryz.func20, Tryz.ntmps20
  go_wp2
  go_ret
  exact ⟨rfl, rfl⟩

theorem pick_byte (n : Int) (b p : Nat) (w : World) (blk off len cap : Nat) (c : Int) (hn : 1 ≤ n) (hp : p < len) (hl : len ≤ 2000) (h0 : w.cell? ⟨b, 0, none⟩ = some (.slice (some ⟨blk, off, none⟩) len cap)) (h1 : w.cell? ⟨b, 1, none⟩ = some (.int .i64 p)) (hf : w.frozen? ⟨b, 1, none⟩ = false)
    (hb : blk < b) (hc0 : 0 ≤ c) (hc1 : c ≤ 255) (hc : w.cell? ⟨blk, off + p, none⟩ = some (.int .u8 c)) :
    Calls Tryz.prog 20 #[.pointer (some ⟨b, 0, none⟩), .int .i64 n] w fun e w' => e = .returned (.int .i64 (c % n)) ∧ w' = w.setCell ⟨b, 1, none⟩ (.int .i64 (p + 1)) := by
  have hn' : ¬ n < 1 := by omega
  have hl' : ((len : Int) == 0) = false := by simp; omega
  go_enter Tryz.func20, Tryz.ntmps20
  go_wp2
  go_ret
  exact ⟨rfl, rfl⟩

theorem pick_mix (n : Int) (b p : Nat) (w : World) (blk off len cap : Nat) (c d : Int) (hn : 1 ≤ n) (hp : len ≤ p) (hp' : p ≤ 1000000000) (hl0 : 1 ≤ len) (hl : len ≤ 2000) (h0 : w.cell? ⟨b, 0, none⟩ = some (.slice (some ⟨blk, off, none⟩) len cap)) (h1 : w.cell? ⟨b, 1, none⟩ = some (.int .i64 p)) (hf : w.frozen? ⟨b, 1, none⟩ = false)
    (hb : blk < b) (hc0 : 0 ≤ c) (hc1 : c ≤ 255) (hc : w.cell? ⟨blk, off + p % len, none⟩ = some (.int .u8 c)) (hd0 : 0 ≤ d) (hd1 : d ≤ 255) (hd : w.cell? ⟨blk, off + (p * 7 + 3) % len, none⟩ = some (.int .u8 d)) :
    Calls Tryz.prog 20 #[.pointer (some ⟨b, 0, none⟩), .int .i64 n] w fun e w' => ∃ r, e = .returned (.int .i64 r) ∧ 0 ≤ r ∧ r < n ∧ ∃ k, w' = (w.setCell ⟨b, 1, none⟩ (.int .i64 (p + 1))).drewN k := by
  have hn' : ¬ n < 1 := by omega
  have hl' : ((len : Int) == 0) = false := by simp; omega
  have hl1 : (1 : Int) ≤ (len : Int) := by omega
  have x1 : 0 ≤ (p : Int) % (len : Int) := Int.emod_nonneg _ (by omega)
  have x2 : (p : Int) % (len : Int) < (len : Int) := Int.emod_lt_of_pos _ (by omega)
  have y1 : 0 ≤ ((p : Int) * 7 + 3) % (len : Int) := Int.emod_nonneg _ (by omega)
  have y2 : ((p : Int) * 7 + 3) % (len : Int) < (len : Int) := Int.emod_lt_of_pos _ (by omega)
  have z1 : 0 ≤ (p : Int) / (len : Int) := Int.ediv_nonneg (by omega) (by omega)
  have z2 : (p : Int) / (len : Int) ≤ (p : Int) := Int.ediv_le_self _ (by omega)
  have hX0 : 0 ≤ c * 131 + d * 1117 + (p : Int) * 29 + (p : Int) / (len : Int) * 53 := by omega
  have hX1 : c * 131 + d * 1117 + (p : Int) * 29 + (p : Int) / (len : Int) * 53 ≤ 1000000000000 := by omega
  go_enter Tryz.func20, Tryz.ntmps20
  go_wp2
  go_quiet (fail)
  generalize c * 131 + d * 1117 + (p : Int) * 29 + (p : Int) / (len : Int) * 53 = X at *
  clear x1 x2 y1 y2 z1 z2 hc hd hc0 hc1 hd0 hd1
  have q1 := xor_pos X (X / 64) hX0 (by omega) (by omega) (by omega)
  generalize hY : bits BinOp.xor IntKind.i64 X (X / 64) = Y at *
  go_wp2
  go_ret
  exact ⟨_, rfl, Int.emod_nonneg _ (by omega), Int.emod_lt_of_pos _ (by omega), _, rfl⟩

theorem Rd.lt {W : World} {b p : Nat} (h : Rd W b p) : b < W.heap.size := by
  obtain ⟨a, len, cap, hl, h0, h1, hf, hr⟩ := h
  refine Nat.lt_of_not_le fun hn => ?_
  have : W.heap[b]? = none := by simp; omega
  simp [World.cell?, this] at h0

/-- a step of the reader: its own block alone has turned -/
theorem grown_pick (w : World) (b k : Nat) (v : Value) : w.grownBy ((w.setCell ⟨b, 1, none⟩ v).drewN k) (some b) := by
  refine ⟨rfl, rfl, rfl, ?_, ?_⟩
  · simp [World.drewN]
  · intro j hj hne
    exact Below.heap_setCell w ⟨b, 1, none⟩ v j (fun e => hne (by rw [e]))

theorem Rd.step {w : World} {b p : Nat} (h : Rd w b p) (k : Nat) : Rd ((w.setCell ⟨b, 1, none⟩ (.int .i64 (p + 1))).drewN k) b (p + 1) := by
  obtain ⟨a, len, cap, hl, h0, h1, hf, hr⟩ := h
  refine ⟨a, len, cap, hl, ?_, ?_, ?_, ?_⟩
  · show (w.setCell ⟨b, 1, none⟩ (.int .i64 (p + 1))).cell? _ = _
    go_simp
  · show (w.setCell ⟨b, 1, none⟩ (.int .i64 (p + 1))).cell? _ = _
    go_simp
  · show (w.setCell ⟨b, 1, none⟩ (.int .i64 (p + 1))).frozen? _ = _
    go_simp
  · rcases hr with h | ⟨blk, off, e, hb, hc⟩
    · exact .inl h
    · refine .inr ⟨blk, off, e, hb, fun i hi => ?_⟩
      obtain ⟨c, c0, c1, hc⟩ := hc i hi
      refine ⟨c, c0, c1, ?_⟩
      show (w.setCell ⟨b, 1, none⟩ (.int .i64 (p + 1))).cell? _ = _
      have : blk ≠ b := by omega
      go_simp

/-- pick: a number of its range; the reader is one byte on; all else is as it was -/
theorem pick (n : Int) (b p : Nat) (w : World) (hR : Rd w b p) (hp : p ≤ 1000000000) :
    Calls Tryz.prog 20 #[.pointer (some ⟨b, 0, none⟩), .int .i64 n] w fun e w' => ∃ r, e = .returned (.int .i64 r) ∧ 0 ≤ r ∧ (r < n ∨ r = 0) ∧ Rd w' b (p + 1) ∧ w.grownBy w' (some b) := by
  have hS := fun k => hR.step k
  obtain ⟨a, len, cap, hl, h0, h1, hf, hr⟩ := hR
  by_cases hn : n < 1
  · refine (pick_small n b p w a len cap hn hp h0 h1 hf).mono ?_
    rintro e w' ⟨rfl, rfl⟩
    exact ⟨0, rfl, by omega, .inr rfl, hS 0, grown_pick w b 0 _⟩
  · rcases hr with rfl | ⟨blk, off, rfl, hb, hc⟩
    · refine (pick_none n b p w a cap hn hp h0 h1 hf).mono ?_
      rintro e w' ⟨rfl, rfl⟩
      exact ⟨0, rfl, by omega, .inr rfl, hS 0, grown_pick w b 0 _⟩
    · by_cases hlt : p < len
      · obtain ⟨c, c0, c1, hc⟩ := hc p hlt
        refine (pick_byte n b p w blk off len cap c (by omega) hlt hl h0 h1 hf hb c0 c1 hc).mono ?_
        rintro e w' ⟨rfl, rfl⟩
        exact ⟨_, rfl, Int.emod_nonneg _ (by omega), .inl (Int.emod_lt_of_pos _ (by omega)), hS 0, grown_pick w b 0 _⟩
      · by_cases hz : len = 0
        · subst hz
          refine (pick_none n b p w _ cap hn hp h0 h1 hf).mono ?_
          rintro e w' ⟨rfl, rfl⟩
          exact ⟨0, rfl, by omega, .inr rfl, hS 0, grown_pick w b 0 _⟩
        · obtain ⟨c, c0, c1, hc1⟩ := hc (p % len) (Nat.mod_lt _ (by omega))
          obtain ⟨d, d0, d1, hd1⟩ := hc ((p * 7 + 3) % len) (Nat.mod_lt _ (by omega))
          refine (pick_mix n b p w blk off len cap c d (by omega) (by omega) hp (by omega) hl h0 h1 hf hb c0 c1 hc1 d0 d1 hd1).mono ?_
          rintro e w' ⟨r, rfl, r0, r1, k, rfl⟩
          exact ⟨r, rfl, r0, .inl r1, hS k, grown_pick w b k _⟩
end Go.Proofs.YtogkkkollmcijaaGreatDoor.Draw
end

section
/-
  The reader of drawn codes: its opening, numbers of a list, words.
-/
namespace Go.Proofs.YtogkkkollmcijaaGreatDoor.Draw
set_option linter.unusedVariables false
open Go.RowKit

theorem hide {p : Prop} (h : p) : Hid p := h
theorem unhide {p : Prop} (h : Hid p) : p := h
theorem below_drewN' {B : Nat} {a w : World} (h : Below B a w) (k : Nat) : Below B a (w.drewN k) := ⟨h.os, h.tape, h.output, h.size, h.block⟩
theorem grown_trans {a b c : World} {r : Option Nat} (h : a.grownBy b r) (k : b.grownBy c r) : a.grownBy c r :=
  ⟨k.os.trans h.os, k.tape.trans h.tape, k.output.trans h.output, Nat.le_trans h.size k.size, fun j hj hne => (k.block j (Nat.lt_of_lt_of_le hj h.size) hne).trans (h.block j hj hne)⟩
theorem grown_none {a b : World} {r : Option Nat} (h : a.grownBy b none) : a.grownBy b r := ⟨h.os, h.tape, h.output, h.size, fun j hj _ => h.block j hj (by simp)⟩
theorem grown_of_below {a b : World} (h : Below a.heap.size a b) (r : Option Nat) : a.grownBy b r := ⟨h.os, h.tape, h.output, h.size, fun j hj _ => h.block j hj⟩

/-- the reader is still what it was where only other blocks, all younger than it, have turned -/
theorem Rd.kept {w w' : World} {b p : Nat} {r : Option Nat} (h : Rd w b p) (hg : w.grownBy w' r) (hr : ∀ k, r = some k → b < k) : Rd w' b p := by
  have hb := h.lt
  have hne : ∀ j, j ≤ b → some j ≠ r := fun j hj e => by have := hr j e.symm; omega
  obtain ⟨a, len, cap, hl, h0, h1, hf, hr⟩ := h
  refine ⟨a, len, cap, hl, hg.cell h0 (hne _ (Nat.le_refl _)), hg.cell h1 (hne _ (Nat.le_refl _)), ?_, ?_⟩
  · rw [World.frozen?_of_block (hg.block b hb (hne _ (Nat.le_refl _)))]; exact hf
  · rcases hr with h | ⟨blk, off, e, hb, hc⟩
    · exact .inl h
    · refine .inr ⟨blk, off, e, hb, fun i hi => ?_⟩
      obtain ⟨c, c0, c1, hc⟩ := hc i hi
      exact ⟨c, c0, c1, hg.cell hc (hne blk (by omega))⟩

/-- bytes that came in: at most len are read -/
def Bytes (W : World) (a : Option Addr) (len cap : Nat) : Prop := len ≤ cap ∧ cap ≤ 9223372036854775807 ∧ (len = 0 ∨ ∃ blk off, a = some ⟨blk, off, none⟩ ∧ blk < W.heap.size ∧ ∀ i, i < len → ∃ c : Int, 0 ≤ c ∧ c ≤ 255 ∧ W.cell? ⟨blk, off + i, none⟩ = some (.int .u8 c))

theorem bytes_of {w : World} {a : Option Addr} {len cap : Nat} {zs : List Int} (h : (a = none ∧ len = 0 ∧ cap = 0 ∧ zs = []) ∨ ∃ x, a = some x ∧ len ≤ cap ∧ cap ≤ maxLen ∧ zs.length = cap ∧ (∀ i, i < zs.length → w.cell? (x.add i) = some (.int .u8 (zs.getD i 0))) ∧ ∀ n ∈ zs, (Lit.int .u8 n).wf = true) : Bytes w a len cap := by
  rcases h with ⟨rfl, rfl, rfl, rfl⟩ | ⟨x, rfl, hl, hm, hz, hc, hw⟩
  · exact ⟨Nat.le_refl _, by omega, .inl rfl⟩
  · refine ⟨hl, by unfold maxLen at hm; omega, ?_⟩
    by_cases h0 : len = 0
    · exact .inl h0
    · obtain ⟨b, off, spot⟩ := x
      have hspot : spot = none := by simpa [Addr.add] using World.cell?_spot (hc 0 (by omega))
      subst hspot
      refine .inr ⟨b, off, rfl, ?_, fun i hi => ?_⟩
      · have h1 := hc 0 (by omega)
        refine Nat.lt_of_not_le fun hn => ?_
        have h2 : w.heap[b]? = none := by simp; omega
        simp [World.cell?, Addr.add, h2] at h1
      · have h1 := hc i (by omega)
        have h2 : zs.getD i 0 ∈ zs := by
          rw [List.getD_eq_getElem?_getD, List.getElem?_eq_getElem (by omega)]; simp
        have h3 : 0 ≤ zs.getD i 0 ∧ zs.getD i 0 ≤ 255 := by simpa [Lit.wf, IntKind.min, IntKind.max, IntKind.signed, IntKind.bits] using hw _ h2
        rw [Addr.add_lit] at h1
        exact ⟨_, h3.1, h3.2, h1⟩

theorem Bytes.kept {w w' : World} {a : Option Addr} {len cap : Nat} (h : Bytes w a len cap) (hb : Below w.heap.size w w') : Bytes w' a len cap := by
  obtain ⟨h1, h2, hr⟩ := h
  refine ⟨h1, h2, ?_⟩
  rcases hr with h | ⟨blk, off, e, hlt, hc⟩
  · exact .inl h
  · refine .inr ⟨blk, off, e, Nat.lt_of_lt_of_le hlt hb.size, fun i hi => ?_⟩
    obtain ⟨c, c0, c1, hc⟩ := hc i hi
    exact ⟨c, c0, c1, by rw [hb.cell (p := ⟨blk, off + i, none⟩) hlt]; exact hc⟩
theorem below_trans {w w1 w2 : World} (h : Below w.heap.size w w1) (k : Below w1.heap.size w1 w2) : Below w.heap.size w w2 := h.trans (k.mono h.size)

theorem cell_alloc {w : World} {q : Addr} {v : Value} (o : Obj) (h : w.cell? q = some v) (hq : q.block < w.heap.size) : (w.alloc o).cell? q = some v := by
  rw [World.cell?_of_block (w := w) (Below.heap_alloc w o q.block hq)]; exact h

theorem rd_new (w : World) (a : Option Addr) (len cap : Nat) (t : TypeId) (hl : len ≤ 2000) (h : Bytes w a len cap) : Rd (w.alloc (.cells #[.slice a len cap, .int .i64 0] t)) w.heap.size 0 := by
  obtain ⟨h1, h2, hr⟩ := h
  refine ⟨a, len, cap, hl, ?_, ?_, ?_, ?_⟩
  · go_simp
  · go_simp
  · go_simp
  · rcases hr with h | ⟨blk, off, e, hb, hc⟩
    · exact .inl h
    · refine .inr ⟨blk, off, e, hb, fun i hi => ?_⟩
      obtain ⟨c, c0, c1, hc⟩ := hc i hi
      exact ⟨c, c0, c1, cell_alloc _ hc hb⟩

/-- l18Open: a new reader -/
theorem openR (a : Option Addr) (len cap : Nat) (w : World) (h : Bytes w a len cap) :
    Calls Tryz.prog 14 #[.slice a len cap] w fun e w' => e = .returned (.pointer (some ⟨w.heap.size, 0, none⟩)) ∧ Rd w' w.heap.size 0 ∧ Below w.heap.size w w' := by
  have hb := h
  obtain ⟨h1, h2, hr⟩ := h
  by_cases hl : 2000 < len
  · rcases hr with h | ⟨blk, off, rfl, hblk, hc⟩
    · omega
    · have hc := hide hc
      go_enter Tryz.func14, Tryz.ntmps14
      go_wp2
      go_ret
      exact ⟨rfl, rd_new w _ 2000 cap _ (Nat.le_refl _) ⟨by omega, h2, .inr ⟨blk, off, rfl, hblk, fun i hi => unhide hc i (by omega)⟩⟩, (Below.refl _ _).alloc (Nat.le_refl _) _⟩
  · clear hr
    go_enter Tryz.func14, Tryz.ntmps14
    go_wp2
    go_ret
    exact ⟨rfl, rd_new w a len cap _ (by omega) hb, (Below.refl _ _).alloc (Nat.le_refl _) _⟩

/-- num: one of a list's numbers -/
theorem num (Q : Int → Prop) (b p g o len cap : Nat) (w : World) (hR : Rd w b p) (hp : p ≤ 1000000000) (hlen : 1 ≤ len) (hcap : len ≤ 9223372036854775807) (hgb : g ≠ b) (hc : ∀ i, i < len → ∃ z : Int, Q z ∧ w.cell? ⟨g, o + i, none⟩ = some (.int .i64 z)) :
    Calls Tryz.prog 24 #[.pointer (some ⟨b, 0, none⟩), .slice (some ⟨g, o, none⟩) len cap] w fun e w' => ∃ z, e = .returned (.int .i64 z) ∧ Q z ∧ Rd w' b (p + 1) ∧ w.grownBy w' (some b) := by
  go_enter Tryz.func24, Tryz.ntmps24
  go_wp2_with fail
  refine (pick _ _ _ _ hR hp).mono ?_
  rintro e w' ⟨r, rfl, r0, r1, hR', hg⟩
  obtain ⟨k, rfl⟩ := Int.eq_ofNat_of_zero_le r0
  have hk : k < len := by omega
  obtain ⟨z, hQ, hz⟩ := hc k hk
  have hz' := hg.cell hz (by simpa using hgb)
  clear hz hc r1
  go_wp2
  go_ret
  exact ⟨z, rfl, hQ, hR', hg⟩

theorem wrapU (n : Int) : 0 ≤ IntKind.u64.wrap n ∧ IntKind.u64.wrap n < 18446744073709551616 := by
  have h : IntKind.u64.wrap n = n % 18446744073709551616 := by simp [IntKind.wrap, IntKind.bits, IntKind.signed]
  rw [h]; omega

/-- the numbers of a list that is written out -/
theorem new_nums (Q : Int → Prop) (w : World) (xs : List Int) (t : TypeId) (h : ∀ z ∈ xs, Q z) : ∀ i, i < xs.length → ∃ z : Int, Q z ∧ (w.alloc (.cells (xs.map (Value.int .i64)).toArray t)).cell? ⟨w.heap.size, 0 + i, none⟩ = some (.int .i64 z) := by
  intro i hi
  refine ⟨xs[i], h _ (List.getElem_mem hi), ?_⟩
  have e1 := (MapKept.heap_alloc w (.cells (xs.map (Value.int .i64)).toArray t)).1
  simp only [World.cell?]
  rw [e1]
  simp [hi]

/-- what a draw of the reader leaves: at most q bytes more are taken, and nothing that lay there has turned but the reader -/
def Drawn (w w' : World) (b p q : Nat) : Prop := (∃ p', p' ≤ p + q ∧ Rd w' b p') ∧ w.grownBy w' (some b)

/-- l1Coin: a number of at most 2000000000000000 -/
def isCoin (z : Int) : Prop := -2000000000000000 ≤ z ∧ z ≤ 2000000000000000

theorem Drawn.trans {w1 w2 w3 : World} {b p q : Nat} (h : w1.grownBy w2 (some b)) (k : Drawn w2 w3 b p q) : w1.grownBy w3 (some b) := grown_trans h k.2

/-- a reader that was opened in this call, and all that it did since, has turned nothing that was there before -/
theorem below_of {w w1 w2 : World} {b : Nat} (h : Below w.heap.size w w1) (hb : w.heap.size ≤ b) (hg : w1.grownBy w2 (some b)) : Below w.heap.size w w2 := h.grown hg h.size (fun k e => by injection e with e; omega)

/-- small numbers -/
def isSmall (z : Int) : Prop := -2000000 ≤ z ∧ z ≤ 2000000

end Go.Proofs.YtogkkkollmcijaaGreatDoor.Draw
end

section
/-
  'out = append(out, T{..})' on a slice of structs of two cells of the call's own.
-/
namespace Go.Proofs.YtogkkkollmcijaaGreatDoor.App2
set_option linter.unusedVariables false
open Go.RowKit

/-- two values each -/
abbrev flat {α : Type} (f g : α → Value) (l : List α) : List Value := l.flatMap fun x => [f x, g x]
theorem flat_len {α : Type} (f g : α → Value) : ∀ l : List α, (flat f g l).length = l.length * 2
  | [] => rfl
  | x :: xs => by
    have := flat_len f g xs
    simp only [flat, List.flatMap_cons, List.length_append, List.length_cons, List.length_nil] at this ⊢
    omega
theorem flat_get {α : Type} (f g : α → Value) : ∀ (l : List α) (i : Nat) (x : α), l[i]? = some x → (flat f g l)[i * 2]? = some (f x) ∧ (flat f g l)[i * 2 + 1]? = some (g x)
  | [], i, x, h => by simp at h
  | y :: ys, 0, x, h => by
    simp only [List.getElem?_cons_zero, Option.some.injEq] at h
    subst h
    simp [flat]
  | y :: ys, i + 1, x, h => by
    have := flat_get f g ys i x (by simpa using h)
    have e1 : (i + 1) * 2 = i * 2 + 1 + 1 := by omega
    have e2 : (i + 1) * 2 + 1 = i * 2 + 1 + 1 + 1 := by omega
    rw [e1]
    simp only [flat, List.flatMap_cons, List.cons_append, List.nil_append, List.getElem?_cons_succ]
    exact this

/-- the slice of the call's own in block b holds l -/
def Own2 {α : Type} (e : TypeId) (f g : α → Value) (W : World) (B b cap : Nat) (l : List α) : Prop := W.ownsRow B e 2 (.slice (some ⟨b, 0, none⟩) l.length cap) l.length (flat f g l)

section
variable {ops : Array Oper} {o : Oper} {a : Act} {K : Act → World → Prop} {Q : Exit → Act → World → Prop} {E : Prop} {α : Type} {e t : TypeId} {f g : α → Value} {i : TypeInfo} {z : Value} {bytes : Nat}

theorem listApp2 (w : World) {rest : List Oper} (ht : Tryz.prog.underlying t = some (.slice e)) (hinfo : Tryz.prog.info? e = some i) (hzero : i.zero = some z) (hsize : i.size = 2) (hbytes : i.bytes = bytes) (hz : z.cells.size = 2) (hb24 : bytes ≤ 100) (hf : ∀ x : α, (f x).oneCell' = true ∧ (g x).oneCell' = true)
    (hgd : o.guard = none) (s x : Operand) (ho : o.op = .call { callee := .builtin .append, args := #[s, x], argTypes := #[t, t] })
    (B b c N n : Nat) (l : List α) (q : α) (hn : l.length = n) (hs : a.eval s = .slice (some ⟨b, 0, none⟩) n c) (hown : Own2 e f g w B b c l) (hx : a.eval x = .slice (some ⟨N, 0, none⟩) 1 1) (hN : w.heap[N]? = some (.cells #[f q, g q] e (0, 0)))
    (hl : l.length ≤ 1000000) (hB : B ≤ w.heap.size)
    (h : ∀ b' c' w', Own2 e f g w' B b' c' (l ++ [q]) → w.grownBy w' (some b) → (b = b' ∨ b' = w.heap.size) → b' < w'.heap.size → wpList Tryz.prog ops Q rest (a.put o.dst (.slice (some ⟨b', 0, none⟩) (n + 1) c')) w') :
    wpList Tryz.prog ops Q (o :: rest) a w := by
  subst hn
  have hby : (l.length + 1) * bytes ≤ 140737488355328 := by
    have : (l.length + 1) * bytes ≤ 1000001 * 100 := Nat.mul_le_mul (by omega) hb24
    omega
  exact wpList_append_lies (P := Tryz.prog) w hgd s x t ho B e i z 2 bytes ht hinfo hzero hsize hbytes hz (by omega) _ l.length (flat f g l) hs hown ⟨N, 0, none⟩ 1 1 [f q, g q] hx rfl (World.news_of_block hN) (by have := hf q; simp [this.1, this.2]) (by omega) (by unfold maxLen; omega) hby hB _ rfl
    (fun b' c' w' h1 h2 h3 h4 => h b' c' w' (by unfold Own2; simpa [flat] using h1) h2 (by rcases h3 with h3 | h3; exact .inl (by simpa [Value.ownBlock] using h3); exact .inr h3) h4)
end

section
variable {α : Type} {e : TypeId} {f g : α → Value}
theorem Own2.kept {W W' : World} {B b c : Nat} {l : List α} {r : Option Nat} (h : Own2 e f g W B b c l) (hg : W.grownBy W' r) (hne : some b ≠ r) : Own2 e f g W' B b c l :=
  World.ownsRow.kept h hg (.inr (by simpa [Value.ownBlock] using hne))
theorem Own2.lt {W : World} {B b c : Nat} {l : List α} (h : Own2 e f g W B b c l) : B ≤ b ∧ b < W.heap.size := World.ownsRow.lt h b rfl
theorem Own2.new (w : World) (B : Nat) (hB : B ≤ w.heap.size) : Own2 e f g (w.alloc (.cells #[] e)) B w.heap.size 0 ([] : List α) :=
  ⟨by simp, .inr ⟨w.heap.size, 0, #[], rfl, hB, (MapKept.heap_alloc w _).1, by simp, by unfold maxLen; omega, by simp, by simp⟩⟩
theorem Own2.cells {W : World} {B b c : Nat} {l : List α} (h : Own2 e f g W B b c l) (i : Nat) (x : α) (hx : l[i]? = some x) : W.cell? ⟨b, i * 2, none⟩ = some (f x) ∧ W.cell? ⟨b, i * 2 + 1, none⟩ = some (g x) := by
  obtain ⟨h1, h2⟩ := flat_get f g l i x hx
  have c1 := World.ownsRow.cells h rfl (i * 2) _ h1
  have c2 := World.ownsRow.cells h rfl (i * 2 + 1) _ h2
  rw [Addr.add_lit] at c1 c2
  rw [Nat.zero_add] at c1 c2
  exact ⟨c1, c2⟩
end
end Go.Proofs.YtogkkkollmcijaaGreatDoor.App2
end

section
/-
  Slices of uses (a text and a number) in memory, and the laws' own helpers on them: size, copy, compare.
-/
namespace Go.Proofs.YtogkkkollmcijaaGreatDoor.Uses
set_option linter.unusedVariables false
open Go.RowKit

theorem hide {p : Prop} (h : p) : Hid p := h
theorem unhide {p : Prop} (h : Hid p) : p := h

abbrev U := ByteArray × Int
abbrev U0 : U := (ByteArray.empty, 0)

/-- from o on block b holds the uses l -/
def UC (W : World) (b o : Nat) (l : List U) : Prop := b < W.heap.size ∧ ∀ i, i < l.length → W.cell? ⟨b, o + i * 2, none⟩ = some (.string (l.getD i U0).1) ∧ W.cell? ⟨b, o + i * 2 + 1, none⟩ = some (.int .i64 (l.getD i U0).2)

/-- the slice v holds the uses l -/
def UR (W : World) (v : Value) (l : List U) : Prop :=
  (l = [] ∧ ∃ a c, v = .slice a 0 c) ∨ ∃ b o cap, v = .slice (some ⟨b, o, none⟩) l.length cap ∧ UC W b o l

theorem UC.kept {W W' : World} {b o : Nat} {l : List U} (h : UC W b o l) (hb : Below W.heap.size W W') : UC W' b o l :=
  ⟨Nat.lt_of_lt_of_le h.1 hb.size, fun i hi => ⟨(hb.cell (p := ⟨b, o + i * 2, none⟩) h.1).trans (h.2 i hi).1, (hb.cell (p := ⟨b, o + i * 2 + 1, none⟩) h.1).trans (h.2 i hi).2⟩⟩
theorem UR.kept {W W' : World} {v : Value} {l : List U} (h : UR W v l) (hb : Below W.heap.size W W') : UR W' v l := by
  rcases h with h | ⟨b, o, cap, rfl, hc⟩
  · exact .inl h
  · exact .inr ⟨b, o, cap, rfl, hc.kept hb⟩
theorem below_trans {w w1 w2 : World} (h : Below w.heap.size w w1) (k : Below w1.heap.size w1 w2) : Below w.heap.size w w2 := h.trans (k.mono h.size)

/-! ### The copy -/

/-- a row of uses of the call's own: block b holds l, nothing of it is frozen -/
def UOwn (W : World) (b : Nat) (l : List U) : Prop := UC W b 0 l ∧ ∀ j, W.frozen? ⟨b, j, none⟩ = false

theorem UOwn.set {W : World} {b : Nat} {l : List U} (h : UOwn W b l) {k : Nat} (hk : k < l.length) (x : U) :
    UOwn ((W.setCell ⟨b, 0 + k * 2, none⟩ (.string x.1)).setCell ⟨b, 0 + k * 2 + 1, none⟩ (.int .i64 x.2)) b (l.set k x) := by
  refine ⟨⟨by simpa using h.1.1, fun i hi => ?_⟩, fun j => by simpa [World.frozen?_setCell] using h.2 j⟩
  have hi' : i < l.length := by simpa using hi
  obtain ⟨c0, c1⟩ := h.1.2 i hi'
  by_cases e : i = k
  · subst e
    rw [List.getD_eq_getElem?_getD, List.getElem?_set_self hi']
    refine ⟨?_, ?_⟩
    · rw [World.cell?_setCell_other _ _ _ _ (by simp)]
      exact World.cell?_setCell_same _ _ _ c0
    · exact World.cell?_setCell_same _ _ _ (by rw [World.cell?_setCell_other _ _ _ _ (by simp)]; exact c1)
  · rw [World.cell?_setCell_other _ _ _ _ (by simp), World.cell?_setCell_other _ _ _ _ (by simp), World.cell?_setCell_other _ _ _ _ (by simp), World.cell?_setCell_other _ _ _ _ (by simp), c0, c1, List.getD_eq_getElem?_getD, List.getD_eq_getElem?_getD, List.getElem?_set_ne (by omega)]
    exact ⟨rfl, rfl⟩

theorem UOwn.kept {W W' : World} {b : Nat} {l : List U} (h : UOwn W b l) (hb : Below W.heap.size W W') : UOwn W' b l :=
  ⟨h.1.kept hb, fun j => (hb.frozen (p := ⟨b, j, none⟩) h.1.1).trans (h.2 j)⟩

theorem infoU : (Tryz.prog.info? 199).map (fun i => (i.zero, i.size, i.bytes)) = some (some (.agg #[.string ByteArray.empty, .int .i64 0]), 2, 24) := by kernel_rfl

theorem makeU (n : Nat) (hn : n ≤ 1048576) (w : World) : (Instr.makeSlice 197 (.int .i64 (n : Int)) (.int .i64 (n : Int))).run Tryz.prog w = .ok (.slice (some ⟨w.heap.size, 0, none⟩) n n) (w.alloc (.cells (madeCells #[.string ByteArray.empty, .int .i64 0] (n * 2)) 199)) := by
  obtain ⟨i, hi, h2⟩ := Option.map_eq_some_iff.1 infoU
  simp only [Prod.mk.injEq] at h2
  obtain ⟨hz, hs, hb⟩ := h2
  have := run_make (P := Tryz.prog) w 197 199 i _ Tryz.underlying197 hi hz .i64 .i64 n n (by omega) (by omega) (by rw [hb]; omega) (by omega)
  have e : (Value.agg #[.string ByteArray.empty, .int .i64 0]).cells = #[.string ByteArray.empty, .int .i64 0] := rfl
  rw [hs, e] at this
  simpa using this

theorem UOwn.made (w : World) (n : Nat) (t : TypeId) : UOwn (w.alloc (.cells (madeCells #[.string ByteArray.empty, .int .i64 0] (n * 2)) t)) w.heap.size (List.replicate n U0) := by
  have e1 := (MapKept.heap_alloc w (.cells (madeCells #[.string ByteArray.empty, .int .i64 0] (n * 2)) t)).1
  refine ⟨⟨by simp, fun i hi => ?_⟩, fun j => ?_⟩
  · have hi' : i < n := by simpa using hi
    have m0 : i * 2 % 2 = 0 := by omega
    have m1 : (i * 2 + 1) % 2 = 1 := by omega
    have l0 : i * 2 < n * 2 := by omega
    have l1 : i * 2 + 1 < n * 2 := by omega
    simp only [World.cell?]
    rw [e1]
    constructor
    · simp [madeCells, hi', l0, m0]
    · simp [madeCells, hi', l1, m1]
  · simp only [World.frozen?]
    rw [e1]; simp

theorem copy_step (l : List U) (k : Nat) (h : k < l.length) : (l.take k ++ List.replicate (l.length - k) U0).set k (l.getD k U0) = l.take (k + 1) ++ List.replicate (l.length - (k + 1)) U0 := by
  have e : l.length - k = (l.length - (k + 1)) + 1 := by omega
  rw [e, List.replicate_succ, List.set_append_right _ _ (by simp; omega)]
  have e2 : k - (l.take k).length = 0 := by simp; omega
  rw [e2, List.set_cons_zero]
  have e3 : l.take (k + 1) = l.take k ++ [l.getD k U0] := by rw [List.take_add_one, List.getElem?_eq_getElem h]; simp [List.getD, h]
  rw [e3, List.append_assoc]; rfl

theorem below_drewN' {B : Nat} {a w : World} (h : Below B a w) (k : Nat) : Below B a (w.drewN k) := ⟨h.os, h.tape, h.output, h.size, h.block⟩
theorem below_of_drew {B : Nat} {a w : World} (h : Below B a.drew w) : Below B a w := ⟨h.os, h.tape, h.output, h.size, h.block⟩
theorem below_of_drewN {B : Nat} {a w : World} {k : Nat} (h : Below B (a.drewN k) w) : Below B a w := ⟨h.os, h.tape, h.output, h.size, h.block⟩

/-! ### RuleOf -/

/-- how much of a meter was used -/
def ofV (m : ByteArray) : List U → Int
  | [] => 0
  | u :: us => if u.1 = m then u.2 else ofV m us

theorem ofV_hit (m : ByteArray) : ∀ (l : List U) (k : Nat), k < l.length → (∀ j, j < k → (l.getD j U0).1 ≠ m) → (l.getD k U0).1 = m → ofV m l = (l.getD k U0).2
  | [], k, h, _, _ => by simp at h
  | u :: us, 0, _, _, h => by simp only [List.getD_cons_zero] at h ⊢; simp [ofV, h]
  | u :: us, k + 1, hk, hj, h => by
    have h0 := hj 0 (by omega)
    simp only [List.getD_cons_zero] at h0
    simp only [List.getD_cons_succ] at h ⊢
    rw [ofV, if_neg h0]
    exact ofV_hit m us k (by simpa using hk) (fun j hj' => by have := hj (j + 1) (by omega); simpa using this) h
theorem ofV_none (m : ByteArray) : ∀ (l : List U), (∀ j, j < l.length → (l.getD j U0).1 ≠ m) → ofV m l = 0
  | [], _ => rfl
  | u :: us, hj => by
    have h0 := hj 0 (by simp)
    simp only [List.getD_cons_zero] at h0
    rw [ofV, if_neg h0]
    exact ofV_none m us (fun j hj' => by have := hj (j + 1) (by simp; omega); simpa using this)

theorem ext_toList {s t : ByteArray} (h : s.toList = t.toList) : s = t := by
  rw [Lib.toList_data, Lib.toList_data] at h
  cases s; cases t
  simp only at h
  rw [Array.toList_inj.1 h]

end Go.Proofs.YtogkkkollmcijaaGreatDoor.Uses
end

section
/-
  Drawn words and drawn uses: of, l2Uses.
-/
namespace Go.Proofs.YtogkkkollmcijaaGreatDoor.Draw
set_option linter.unusedVariables false
open Go.RowKit App2

/-- of: one of a list's words -/
theorem wordOf (Q : ByteArray → Prop) (b p g o len cap : Nat) (w : World) (hR : Rd w b p) (hp : p ≤ 1000000000) (hlen : 1 ≤ len) (hcap : len ≤ 9223372036854775807) (hgb : g ≠ b) (hc : ∀ i, i < len → ∃ z : ByteArray, Q z ∧ w.cell? ⟨g, o + i, none⟩ = some (.string z)) :
    Calls Tryz.prog 21 #[.pointer (some ⟨b, 0, none⟩), .slice (some ⟨g, o, none⟩) len cap] w fun e w' => ∃ z, e = .returned (.string z) ∧ Q z ∧ Rd w' b (p + 1) ∧ w.grownBy w' (some b) := by
  go_enter Tryz.func21, Tryz.ntmps21
  go_wp2_with fail
  refine (pick _ _ _ _ hR hp).mono ?_
  rintro e w' ⟨r, rfl, r0, r1, hR', hg⟩
  obtain ⟨k, rfl⟩ := Int.eq_ofNat_of_zero_le r0
  have hk : k < len := by omega
  obtain ⟨z, hQ, hz⟩ := hc k hk
  have hz' := hg.cell hz (by simpa using hgb)
  clear hz hc r1
  go_wp2
  go_ret
  exact ⟨z, rfl, hQ, hR', hg⟩

theorem new_words (Q : ByteArray → Prop) (w : World) (xs : List ByteArray) (t : TypeId) (h : ∀ z ∈ xs, Q z) : ∀ i, i < xs.length → ∃ z : ByteArray, Q z ∧ (w.alloc (.cells (xs.map Value.string).toArray t)).cell? ⟨w.heap.size, 0 + i, none⟩ = some (.string z) := by
  intro i hi
  refine ⟨xs[i], h _ (List.getElem_mem hi), ?_⟩
  have e1 := (MapKept.heap_alloc w (.cells (xs.map Value.string).toArray t)).1
  simp only [World.cell?]
  rw [e1]
  simp [hi]

abbrev fU : Uses.U → Value := fun u => .string u.1
abbrev gU : Uses.U → Value := fun u => .int .i64 u.2
abbrev OwnU (W : World) (B b cap : Nat) (l : List Uses.U) : Prop := Own2 199 fU gU W B b cap l
def isWord (z : ByteArray) : Prop := z.size ≤ 8
def isQty (z : Int) : Prop := True

theorem infoExU : ∃ i, Tryz.prog.info? 199 = some i ∧ i.zero = some (.agg #[.string ByteArray.empty, .int .i64 0]) ∧ i.size = 2 ∧ i.bytes = 24 := by
  obtain ⟨i, hi, h2⟩ := Option.map_eq_some_iff.1 Uses.infoU
  simp only [Prod.mk.injEq] at h2
  exact ⟨i, hi, h2.1, h2.2.1, h2.2.2⟩
theorem OwnU.ur {W : World} {B b cap : Nat} {l : List Uses.U} (h : OwnU W B b cap l) : Uses.UR W (.slice (some ⟨b, 0, none⟩) l.length cap) l := by
  refine .inr ⟨b, 0, cap, rfl, h.lt.2, fun i hi => ?_⟩
  have := h.cells i (l.getD i Uses.U0) (by simp [List.getD, hi])
  rw [Nat.zero_add]
  exact this

end Go.Proofs.YtogkkkollmcijaaGreatDoor.Draw
end

section
/-
  l2Steps, DrawRuleStep: drawn steps and a drawn number.
-/
namespace Go.Proofs.YtogkkkollmcijaaGreatDoor.Draw
set_option linter.unusedVariables false
open Go.RowKit App2
open Tiers (T T0 TR TC)

def isAny (z : Int) : Prop := True
def isNum (z : Int) : Prop := -1000000000000001 ≤ z ∧ z ≤ 1000000000000001

abbrev fT : T → Value := fun t => .int .i64 t.1
abbrev gT : T → Value := fun t => .int .i64 t.2
abbrev OwnT (W : World) (B b cap : Nat) (l : List T) : Prop := Own2 45 fT gT W B b cap l

theorem infoEx : ∃ i, Tryz.prog.info? 45 = some i ∧ i.zero = some (.agg #[.int .i64 0, .int .i64 0]) ∧ i.size = 2 ∧ i.bytes = 16 := by
  obtain ⟨i, hi, h2⟩ := Option.map_eq_some_iff.1 Tiers.infoT
  simp only [Prod.mk.injEq] at h2
  exact ⟨i, hi, h2.1, h2.2.1, h2.2.2⟩

theorem OwnT.tr {W : World} {B b cap : Nat} {l : List T} (h : OwnT W B b cap l) : TR W (.slice (some ⟨b, 0, none⟩) l.length cap) l := by
  refine .inr ⟨b, 0, cap, rfl, h.lt.2, fun i hi => ?_⟩
  have := h.cells i (l.getD i T0) (by simp [List.getD, hi])
  rw [Nat.zero_add]
  exact this

theorem ownsRow_le {w : World} {base base' size n : Nat} {e : TypeId} {v : Value} {xs : List Value} (h : w.ownsRow base e size v n xs) (hb : base' ≤ base) : w.ownsRow base' e size v n xs := by
  obtain ⟨h1, h2⟩ := h
  refine ⟨h1, ?_⟩
  rcases h2 with h | ⟨g, cap, cur, h3, h4, h5⟩
  · exact .inl h
  · exact .inr ⟨g, cap, cur, h3, by omega, h5⟩

set_option maxHeartbeats 1600000 in
/-- l2Steps: one to three steps -/
theorem steps (b p : Nat) (w : World) (hR : Rd w b p) (hp : p ≤ 100000000) :
    Calls Tryz.prog 46 #[.pointer (some ⟨b, 0, none⟩)] w fun e w' => ∃ (g n c q : Nat) (l : List T), e = .returned (.slice (some ⟨g, 0, none⟩) n c) ∧ l.length = n ∧ n ≤ 3 ∧ OwnT w' w.heap.size g c l ∧ Rd w' b q ∧ p ≤ q ∧ q ≤ p + 10 ∧ w.grownBy w' (some b) := by
  obtain ⟨inf, hinf, hzero, hsize, hbytes⟩ := infoEx
  have hbw := hR.lt
  have HF : ∀ x : T, (fT x).oneCell' = true ∧ (gT x).oneCell' = true := fun x => ⟨rfl, rfl⟩
  go_enter Tryz.func46, Tryz.ntmps46
  go_wp2_with fail
  refine (pick _ b p _ (hR.kept (World.grownBy_alloc w _ none) (by simp)) (by omega)).mono ?_
  rintro e w1 ⟨r, rfl, r0, r1, hR1, hg1⟩
  obtain ⟨N, rfl⟩ := Int.eq_ofNat_of_zero_le r0
  have hN : N ≤ 2 := by omega
  have G1 : Hid (w.grownBy w1 (some b)) := hide (grown_trans (World.grownBy_alloc w _ _) hg1)
  have O1 : Hid (OwnT w1 w.heap.size w.heap.size 0 []) := hide (Own2.kept (Own2.new w w.heap.size (Nat.le_refl _)) hg1 (by simp; omega))
  have R1 := hide hR1
  have hs1 : w.heap.size < w1.heap.size := by have := hg1.size; simp at this; omega
  clear hg1 hR1 r0 r1 hR
  go_wp2_with fail
  go_loopw [3, 4] (fun o i wr => ∃ (k g c q : Nat) (l : List T), k ≤ N ∧ i = .int .i64 ((N : Int) - k) ∧ o = .slice (some ⟨g, 0, none⟩) k c ∧ l.length = k ∧ Hid (OwnT wr w.heap.size g c l) ∧ Hid (Rd wr b q) ∧ q = p + 1 + 2 * k ∧ Hid (w.grownBy wr (some b))) (fun _ i _ => (intOf i).toNat)
  case atStart => exact ⟨0, w.heap.size, 0, p + 1, [], Nat.zero_le _, by simp, rfl, rfl, O1, R1, by omega, G1⟩
  case round =>
    obtain ⟨k, g, c, q, l, hk, rfl, rfl, hl, h1, h2, hq, h3⟩ := hrel
    clear O1 R1 G1
    have hgl := (unhide h1).lt
    have hsz := (unhide h3).size
    by_cases hlt : k < N
    · go_wp2_with fail
      refine (num isAny b q wr.heap.size 0 5 5 _ ((unhide h2).kept (World.grownBy_alloc wr _ none) (by simp)) (by omega) (by omega) (by omega) (by omega) (new_nums isAny wr [1, 2, 10, 100, 1000] _ (fun _ _ => trivial))).mono ?_
      rintro e w3 ⟨x, rfl, _, hR3, hg3⟩
      have hw3 := hg3.size
      have hsz3 : wr.heap.size < w3.heap.size := by simp at hw3; omega
      go_wp2_with fail
      refine (num isAny b (q + 1) w3.heap.size 0 6 6 _ (hR3.kept (World.grownBy_alloc w3 _ none) (by simp)) (by omega) (by omega) (by omega) (by omega) (new_nums isAny w3 [0, 1, 5, 12, 300, 1000000000] _ (fun _ _ => trivial))).mono ?_
      rintro e w4 ⟨y, rfl, _, hR4, hg4⟩
      have hg5 : World.grownBy wr w4 (some b) := grown_trans (World.grownBy_alloc wr _ _) (grown_trans hg3 (grown_trans (World.grownBy_alloc w3 _ _) hg4))
      have O4 := hide ((unhide h1).kept hg5 (by simp; omega))
      have G4 := hide (grown_trans (unhide h3) hg5)
      have R4 := hide hR4
      have hs5 := hg5.size
      clear hg3 hg4 hg5 hR3 hR4 h1 h2 h3 hw3
      go_wp2_with (first
                         | (at_builtin
                            refine listApp2 (e := 45) (f := fT) (g := gT) _ Tryz.underlying24 hinf hzero hsize hbytes rfl (by omega) HF rfl _ _ rfl w.heap.size g c _ k l (x, y) hl rfl (Own2.kept (unhide O4) (World.grownBy_alloc _ _ none) (by simp)) rfl (MapKept.heap_alloc _ _).1 (by omega) (by simp; omega) ?_
                            intro gb cb w6 ho hgr hat hlt6
                            have hg7 : w4.grownBy w6 (some g) := grown_trans (World.grownBy_alloc _ _ _) hgr
                            have R6 := hide ((unhide R4).kept hg7 (fun q hq => by cases hq; omega))
                            have G6 : Hid (w.grownBy w6 (some b)) := hide (by
                              have hh := unhide G4
                              exact ⟨hg7.os.trans hh.os, hg7.tape.trans hh.tape, hg7.output.trans hh.output, Nat.le_trans hh.size hg7.size, fun j hj hne => (hg7.block j (by omega) (by simp; omega)).trans (hh.block j hj hne)⟩)
                            have O6 := hide ho
                            clear ho hgr hat hg7 R4 G4 O4))
      exact ⟨⟨k + 1, gb, cb, q + 1 + 1, _, by omega, by go_num, rfl, by rw [List.length_append, hl]; rfl, O6, R6, by omega, G6⟩, by simp [intOf]; omega⟩
    · obtain rfl : k = N := by omega
      go_wp2_with fail
      refine (num isAny b q wr.heap.size 0 5 5 _ ((unhide h2).kept (World.grownBy_alloc wr _ none) (by simp)) (by omega) (by omega) (by omega) (by omega) (new_nums isAny wr [0, 1, 3, 7, 250] _ (fun _ _ => trivial))).mono ?_
      rintro e w4 ⟨y, rfl, _, hR4, hg4⟩
      have hg5 : World.grownBy wr w4 (some b) := grown_trans (World.grownBy_alloc wr _ _) hg4
      have O4 := hide ((unhide h1).kept hg5 (by simp; omega))
      have G4 := hide (grown_trans (unhide h3) hg5)
      have R4 := hide hR4
      have hs5 := hg5.size
      clear hg4 hg5 hR4 h1 h2 h3
      go_wp2_with (first
                         | (at_builtin
                            refine listApp2 (e := 45) (f := fT) (g := gT) _ Tryz.underlying24 hinf hzero hsize hbytes rfl (by omega) HF rfl _ _ rfl w.heap.size g c _ k l (0, y) hl rfl (Own2.kept (unhide O4) (World.grownBy_alloc _ _ none) (by simp)) rfl (MapKept.heap_alloc _ _).1 (by omega) (by simp; omega) ?_
                            intro gb cb w6 ho hgr hat hlt6
                            have hg7 : w4.grownBy w6 (some g) := grown_trans (World.grownBy_alloc _ _ _) hgr
                            have R6 := hide ((unhide R4).kept hg7 (fun q hq => by cases hq; omega))
                            have G6 : Hid (w.grownBy w6 (some b)) := hide (by
                              have hh := unhide G4
                              exact ⟨hg7.os.trans hh.os, hg7.tape.trans hh.tape, hg7.output.trans hh.output, Nat.le_trans hh.size hg7.size, fun j hj hne => (hg7.block j (by omega) (by simp; omega)).trans (hh.block j hj hne)⟩)
                            have O6 := hide ho
                            clear ho hgr hat hg7 R4 G4 O4))
      go_ret
      exact ⟨gb, _, cb, q + 1, _, rfl, by rw [List.length_append, hl]; rfl, by omega, unhide O6, unhide R6, by omega, by omega, unhide G6⟩

end Go.Proofs.YtogkkkollmcijaaGreatDoor.Draw
end

section
/-
  Expressions that name a certain meter nowhere; no program in it.
-/
namespace Go.Proofs.YtogkkkollmcijaaGreatDoor.Rule
set_option linter.unusedVariables false

/-- "other" -/
def oth : ByteArray := ⟨#[111, 116, 104, 101, 114]⟩
mutual
/-- no meter of it is this -/
def noE (o : ByteArray) : Ex → Prop | .mk _ _ m ks _ => m ≠ o ∧ noL o ks
def noL (o : ByteArray) : List Ex → Prop | [] => True | e :: es => noE o e ∧ noL o es
end
theorem noE_eq (o : ByteArray) (e : Ex) : noE o e = (e.meter ≠ o ∧ noL o e.kids) := by cases e; rfl
theorem noL_at {o : ByteArray} (ho : ByteArray.empty ≠ o) : ∀ {l : List Ex} (_ : noL o l) (i : Nat), noE o (l.getD i E0)
  | [], _, i => by rw [show ([] : List Ex).getD i E0 = E0 by simp]; exact ⟨ho, trivial⟩
  | e :: es, h, 0 => h.1
  | e :: es, h, i + 1 => by rw [show (e :: es).getD (i + 1) E0 = es.getD i E0 by simp]; exact noL_at ho h.2 i
theorem noL_app {o : ByteArray} : ∀ {a b : List Ex}, noL o a → noL o b → noL o (a ++ b)
  | [], b, _, hb => hb
  | e :: es, b, ha, hb => ⟨ha.1, noL_app ha.2 hb⟩
theorem noL0 (o : ByteArray) : noL o [] := trivial
theorem noL1 {o : ByteArray} {a : Ex} (h : noE o a) : noL o [a] := ⟨h, trivial⟩
theorem noL2 {o : ByteArray} {a b : Ex} (h : noE o a) (h2 : noE o b) : noL o [a, b] := ⟨h, h2, trivial⟩
theorem noL3 {o : ByteArray} {a b c : Ex} (h : noE o a) (h2 : noE o b) (h3 : noE o c) : noL o [a, b, c] := ⟨h, h2, h3, trivial⟩
theorem nil_oth : (⟨#[]⟩ : ByteArray) ≠ oth := by decide
theorem empty_oth : ByteArray.empty ≠ oth := by decide
/-- a text with such an end is not that one -/
def isEnd (z : ByteArray) : Prop := z.size ≤ 8 ∧ ∀ m : ByteArray, m ++ z ≠ oth
theorem isEnd_of (z : UInt8) (zs : List UInt8) (hz : z ≠ 114) (hl : zs.length ≤ 7) : isEnd ⟨(zs ++ [z]).toArray⟩ := by
  refine ⟨by show (zs ++ [z]).toArray.size ≤ 8; simp; omega, fun m h => hz ?_⟩
  have := congrArg (fun b => b.data.toList.getLast?) h
  simpa [oth, ByteArray.data_append] using this
/-- a drawn word -/
def isWd (z : ByteArray) : Prop := z.size ≤ 8 ∧ z ≠ oth
end Go.Proofs.YtogkkkollmcijaaGreatDoor.Rule
end
