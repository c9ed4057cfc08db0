/-
  Numbers in decimals (spec.l18Dec): the digits of strconv.Itoa.
-/
import Derived.Test.YtpamdnkngedmaaaDoorProg
import Derived.WalkKit
import Derived.WalkLawsBesides
import Derived.Below
import Derived.Laws.IdiomStrings
import Derived.Lib.ItoaNum
import Derived.Lib.ItoaMem
namespace Go.Proofs.YtpamdnkngedmaaaDoor.Dec
set_option linter.unusedVariables false
open Go.RowKit

theorem hide {p : Prop} (h : p) : Hid p := h
theorem unhide {p : Prop} (h : Hid p) : p := h
theorem below2 {a b c : World} (h1 : Below a.heap.size a b) (h2 : Below b.heap.size b c) : Below a.heap.size a c := h1.trans (h2.mono h1.size)
theorem ret_str {a b : List UInt8} (h : a = b) : Ending.returned (.string ⟨a.toArray⟩) = .returned (.string ⟨b.toArray⟩) := by rw [h]

/-- a string of one byte -/
theorem conv1 (w : World) (c : Int) (h0 : 0 ≤ c) (h1 : c ≤ 255) : (convert 22 9 (.slice (some ⟨w.heap.size, 0, none⟩) 1 1)).run Tryd.prog (w.alloc (.cells #[.int .u8 c] 5)) = .ok (.string ⟨#[UInt8.ofNat c.toNat]⟩) (w.alloc (.cells #[.int .u8 c] 5)) := by
  have h := run_convert_bytes_back (P := Tryd.prog) (w.alloc (.cells #[.int .u8 c] 5)) 22 9 5 ⟨w.heap.size, 0, none⟩ 1 [UInt8.ofNat c.toNat] Tryd.underlying22 Tryd.underlying5 Tryd.underlying9 ?_
  · exact h
  · intro j hj
    obtain rfl : j = 0 := by simpa using hj
    have e : ((UInt8.ofNat c.toNat).toNat : Int) = c := by
      simp; omega
    rw [Addr.add_lit]
    show (w.alloc _).cell? _ = some (.int .u8 ((UInt8.ofNat c.toNat).toNat : Int))
    rw [e]
    have e1 := (MapKept.heap_alloc w (.cells #[.int .u8 c] 5)).1
    simp only [World.cell?]
    rw [e1]; rfl

theorem cat (a b : List UInt8) : ((⟨a.toArray⟩ : ByteArray) ++ ⟨b.toArray⟩) = ⟨(a ++ b).toArray⟩ := by
  apply ByteArray.ext; simp

theorem digit (k : Nat) : 48 + UInt8.ofNat k = UInt8.ofNat (48 + k) := by rw [UInt8.ofNat_add]; rfl

theorem dec_step {m : Nat} (h : 9 < m) : Lib.decDigits m = Lib.decDigits (m / 10) ++ [UInt8.ofNat (48 + m % 10)] := by
  rw [Lib.decDigits, dif_neg (by omega)]

theorem nDig (n : Nat) (h : n ≤ 9223372036854775807) : (Lib.decDigits n).length ≤ 20 := by
  have key : ∀ k n : Nat, n < 10 ^ (k + 1) → (Lib.decDigits n).length ≤ k + 1 := by
    intro k
    induction k with
    | zero => intro n h; rw [Lib.decDigits_one (by omega)]; simp
    | succ k ih =>
      intro n h
      by_cases h9 : 9 < n
      · rw [dec_step h9]
        have := ih (n / 10) (by rw [Nat.pow_succ] at h; omega)
        simp; omega
      · rw [Lib.decDigits_one (by omega)]; simp
  exact key 19 n (by omega)

set_option maxRecDepth 20000 in
theorem dec_pos (n : Nat) (w : World) (hn : n ≤ 9223372036854775807) :
    Calls Tryd.prog 25 #[.int .i64 n] w fun e w' => e = .returned (.string ⟨(Lib.decDigits n).toArray⟩) ∧ Below w.heap.size w w' := by
  go_enter Tryd.func25, Tryd.ntmps25
  go_wp2
  go_loopw [0, 3] (fun t0 t3 w1 => ∃ (m : Nat) (out : List UInt8), m ≤ n ∧ t0 = .int .i64 m ∧ t3 = .string ⟨out.toArray⟩ ∧ Hid (Lib.decDigits n = Lib.decDigits m ++ out) ∧ out.length + m ≤ n ∧ (out.length = 0 ∨ out.length + m < n) ∧ Below w.heap.size w w1) (fun t0 _ _ => (intOf t0).toNat)
  case atStart => exact ⟨n, [], Nat.le_refl _, rfl, rfl, by show _ = _; simp, by simp, .inl rfl, Below.refl _ _⟩
  case round =>
    obtain ⟨m, out, hm, rfl, rfl, hd, hl, hl', hb⟩ := hrel
    have hl2 : 1 + out.length ≤ 9223372036854775807 := by omega
    by_cases h9 : 9 < m
    · have hcv := conv1 wr (48 + (m : Int) % 10) (by omega) (by omega)
      go_wp2
      refine ⟨⟨m / 10, UInt8.ofNat (48 + m % 10) :: out, by omega, by go_num, ?_, ?_, by simp; omega, by simp; omega, hb.alloc hb.size _⟩, by simp [intOf]; omega⟩
      · have := cat [48 + UInt8.ofNat (m % 10)] out
        rw [digit] at this ⊢
        exact congrArg Value.string this
      · show _ = _
        rw [unhide hd, dec_step h9]; simp
    · have hcv := conv1 wr (48 + (m : Int)) (by omega) (by omega)
      go_wp2
      go_ret
      refine ⟨?_, hb.alloc hb.size _⟩
      have e1 := cat [48 + UInt8.ofNat m] out
      have e2 : Lib.decDigits n = [48 + UInt8.ofNat m] ++ out := by rw [unhide hd, Lib.decDigits_one (by omega), digit]
      rw [e2, ← e1]; rfl

set_option maxRecDepth 20000 in
theorem dec_neg (n : Nat) (w : World) (h1 : 1 ≤ n) (hn : n ≤ 9223372036854775807) :
    Calls Tryd.prog 25 #[.int .i64 (-(n : Int))] w fun e w' => e = .returned (.string ⟨(45 :: Lib.decDigits n).toArray⟩) ∧ Below w.heap.size w w' := by
  go_enter Tryd.func25, Tryd.ntmps25
  go_wp2_with fail
  refine (dec_pos n w hn).mono ?_
  rintro e w1 ⟨rfl, hb⟩
  have hl : 1 + (Lib.decDigits n).length ≤ 9223372036854775807 := by have := nDig n hn; omega
  go_wp2
  go_ret
  exact ⟨congrArg (fun x => Ending.returned (.string x)) (cat [45] (Lib.decDigits n)), hb⟩

set_option maxRecDepth 20000 in
theorem dec_min (w : World) :
    Calls Tryd.prog 25 #[.int .i64 (-9223372036854775808)] w fun e w' => e = .returned (.string ⟨(45 :: Lib.decDigits 9223372036854775808).toArray⟩) ∧ Below w.heap.size w w' := by
  have e : (⟨(45 :: Lib.decDigits 9223372036854775808).toArray⟩ : ByteArray) = ⟨#[45, 57, 50, 50, 51, 51, 55, 50, 48, 51, 54, 56, 53, 52, 55, 55, 53, 56, 48, 56]⟩ := by
    rw [Lib.decDigits_eq]; decide +kernel
  rw [e]
  go_enter Tryd.func25, Tryd.ntmps25
  go_wp2
  go_ret
  exact ⟨rfl, Below.refl _ _⟩

/-- l18Dec: strconv.Itoa's text, at every int -/
theorem dec (n : Int) (w : World) (h0 : -9223372036854775808 ≤ n) (h1 : n ≤ 9223372036854775807) :
    Calls Tryd.prog 25 #[.int .i64 n] w fun e w' => e = .returned (.string ⟨(Lib.itoa n).toArray⟩) ∧ Below w.heap.size w w' := by
  by_cases hn : 0 ≤ n
  · obtain ⟨m, rfl⟩ := Int.eq_ofNat_of_zero_le hn
    rw [Lib.itoa_nonneg]; exact dec_pos m w (by omega)
  · obtain ⟨m, hm⟩ := Int.eq_ofNat_of_zero_le (show 0 ≤ -n by omega)
    obtain rfl : n = -(m : Int) := by omega
    rw [Lib.itoa_neg m (by omega)]
    by_cases hb : m ≤ 9223372036854775807
    · exact dec_neg m w (by omega) hb
    · obtain rfl : m = 9223372036854775808 := by omega
      exact dec_min w
end Go.Proofs.YtpamdnkngedmaaaDoor.Dec
