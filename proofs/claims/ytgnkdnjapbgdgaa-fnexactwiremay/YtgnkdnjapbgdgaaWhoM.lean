/-
  Whose a text is: impl.WireOf and spec.WireOf answer the same, and the law on them.
-/
import Derived.Test.YtgnkdnjapbgdgaaProg
import Derived.WalkKit
import Derived.WalkLawsBesides
import Derived.Below
import Derived.WalkMore
import Derived.Outline
import Derived.Lib.Strings
import Derived.Deep.OwnRows
namespace Go.Proofs.Ytgnkdnjapbgdgaa.Wire
set_option linter.unusedVariables false
open Go.RowKit

theorem hide {p : Prop} (h : p) : Hid p := h
theorem unhide {p : Prop} (h : Hid p) : p := h
theorem below_trans {w w1 w2 : World} (h : Below w.heap.size w w1) (k : Below w1.heap.size w1 w2) : Below w.heap.size w w2 := h.trans (k.mono h.size)

/-- whose a text is that begins with these two bytes -/
def whoC (c d : UInt8) : Int := if (d.toNat : Int) ≠ 32 then -1 else if (c.toNat : Int) = 42 then 4 else if 48 ≤ (c.toNat : Int) ∧ (c.toNat : Int) ≤ 51 then (c.toNat : Int) - 48 else -1
/-- WireOf -/
def whoB (s : ByteArray) : Int := if s.size < 2 then -1 else whoC (s.data.toList.getD 0 0) (s.data.toList.getD 1 0)
theorem whoB_two {s : ByteArray} (h : 1 < s.size) : whoB s = whoC (s[0]'(by omega)) s[1] := by
  unfold whoB
  rw [if_neg (by omega)]
  have e0 : s.data.toList.getD 0 0 = s[0]'(by omega) := by
    have : 0 < s.data.toList.length := by simp; exact (show 0 < s.size by omega)
    rw [List.getD, List.getElem?_eq_getElem this]; rfl
  have e1 : s.data.toList.getD 1 0 = s[1] := by
    have : 1 < s.data.toList.length := by simp; exact h
    rw [List.getD, List.getElem?_eq_getElem this]; rfl
  rw [e0, e1]

set_option maxHeartbeats 1000000 in
/-- spec.WireOf -/
theorem whoS (s : ByteArray) (w : World) (hs : s.size ≤ maxLen) : Calls Try.prog 9 #[.string s] w fun e w' => e = .returned (.int .i64 (whoB s)) ∧ Below w.heap.size w w' := by
  unfold maxLen at hs
  by_cases h2 : s.size < 2
  · have hr : whoB s = -1 := by unfold whoB; rw [if_pos h2]
    rw [hr]
    go_enter Try.func9, Try.ntmps9
    go_wp2
    go_ret
    exact ⟨rfl, Below.refl _ _⟩
  have h1 : 1 < s.size := by omega
  have h0 : 0 < s.size := by omega
  rw [whoB_two h1]
  have hd := (s[1]'h1).toNat_lt
  have hc := (s[0]'h0).toNat_lt
  generalize hr : whoC s[0] s[1] = r
  unfold whoC at hr
  have HR := hide hr
  clear hr
  by_cases d32 : ((s[1]'h1).toNat : Int) = 32
  · by_cases c42 : ((s[0]'h0).toNat : Int) = 42
    · obtain rfl : r = 4 := by rw [← unhide HR, if_neg (by simp [d32]), if_pos c42]
      go_enter Try.func9, Try.ntmps9
      go_wp2
      go_ret
      exact ⟨rfl, Below.refl _ _⟩
    · by_cases c48 : ((s[0]'h0).toNat : Int) < 48
      · obtain rfl : r = -1 := by rw [← unhide HR, if_neg (by simp [d32]), if_neg c42, if_neg (by omega)]
        go_enter Try.func9, Try.ntmps9
        go_wp2
        go_ret
        exact ⟨rfl, Below.refl _ _⟩
      · by_cases c51 : 51 < ((s[0]'h0).toNat : Int)
        · obtain rfl : r = -1 := by rw [← unhide HR, if_neg (by simp [d32]), if_neg c42, if_neg (by omega)]
          go_enter Try.func9, Try.ntmps9
          go_wp2
          go_ret
          exact ⟨rfl, Below.refl _ _⟩
        · obtain rfl : r = ((s[0]'h0).toNat : Int) - 48 := by rw [← unhide HR, if_neg (by simp [d32]), if_neg c42, if_pos (by omega)]
          go_enter Try.func9, Try.ntmps9
          go_wp2
          go_ret
          exact ⟨rfl, Below.refl _ _⟩
  · obtain rfl : r = -1 := by rw [← unhide HR, if_pos d32]
    have d32b : (((s[1]'h1).toNat : Int) != 32) = true := by simp; omega
    clear HR
    go_enter Try.func9, Try.ntmps9
    go_wp2
    go_ret
    exact ⟨rfl, Below.refl _ _⟩

set_option maxHeartbeats 1000000 in
/-- impl.WireOf -/
theorem whoI (s : ByteArray) (w : World) (hs : s.size ≤ maxLen) : Calls Try.prog 10 #[.string s] w fun e w' => e = .returned (.int .i64 (whoB s)) ∧ Below w.heap.size w w' := by
  unfold maxLen at hs
  by_cases h2 : s.size < 2
  · have hr : whoB s = -1 := by unfold whoB; rw [if_pos h2]
    rw [hr]
    go_enter Try.func10, Try.ntmps10
    go_wp2
    go_ret
    exact ⟨rfl, Below.refl _ _⟩
  have h1 : 1 < s.size := by omega
  have h0 : 0 < s.size := by omega
  rw [whoB_two h1]
  have hd := (s[1]'h1).toNat_lt
  have hc := (s[0]'h0).toNat_lt
  generalize hr : whoC s[0] s[1] = r
  unfold whoC at hr
  have HR := hide hr
  clear hr
  by_cases d32 : ((s[1]'h1).toNat : Int) = 32
  · by_cases c42 : ((s[0]'h0).toNat : Int) = 42
    · obtain rfl : r = 4 := by rw [← unhide HR, if_neg (by simp [d32]), if_pos c42]
      go_enter Try.func10, Try.ntmps10
      go_wp2
      go_ret
      exact ⟨rfl, Below.refl _ _⟩
    · by_cases c48 : ((s[0]'h0).toNat : Int) < 48
      · obtain rfl : r = -1 := by rw [← unhide HR, if_neg (by simp [d32]), if_neg c42, if_neg (by omega)]
        go_enter Try.func10, Try.ntmps10
        go_wp2
        go_ret
        exact ⟨rfl, Below.refl _ _⟩
      · by_cases c51 : 51 < ((s[0]'h0).toNat : Int)
        · obtain rfl : r = -1 := by rw [← unhide HR, if_neg (by simp [d32]), if_neg c42, if_neg (by omega)]
          go_enter Try.func10, Try.ntmps10
          go_wp2
          go_ret
          exact ⟨rfl, Below.refl _ _⟩
        · obtain rfl : r = ((s[0]'h0).toNat : Int) - 48 := by rw [← unhide HR, if_neg (by simp [d32]), if_neg c42, if_pos (by omega)]
          go_enter Try.func10, Try.ntmps10
          go_wp2
          go_ret
          exact ⟨rfl, Below.refl _ _⟩
  · obtain rfl : r = -1 := by rw [← unhide HR, if_pos d32]
    have d32b : (((s[1]'h1).toNat : Int) != 32) = true := by simp; omega
    clear HR
    go_enter Try.func10, Try.ntmps10
    go_wp2
    go_ret
    exact ⟨rfl, Below.refl _ _⟩

set_option maxHeartbeats 1000000 in
theorem lawWho (s : ByteArray) (w : World) (hs : s.size ≤ maxLen) : Calls Try.prog 4 #[.string s] w fun e w' => e = .returned (.bool true) ∧ Below w.heap.size w w' := by
  have hs' := hs
  unfold maxLen at hs'
  by_cases hbig : 1048576 < s.size
  · go_enter Try.func4, Try.ntmps4
    go_wp2
    go_ret
    exact ⟨rfl, Below.refl _ _⟩
  · generalize hr : whoB s = r
    have HR := hide hr
    clear hr
    go_enter Try.func4, Try.ntmps4
    go_wp2_with (fail)
    refine (whoS s _ hs).mono ?_
    rintro e w1 ⟨rfl, hb1⟩
    go_wp2_with (fail)
    refine (whoI s _ hs).mono ?_
    rintro e w2 ⟨rfl, hb2⟩
    rw [unhide HR]
    have hrr : (r != r) = false := by simp
    go_wp2
    go_ret
    exact ⟨rfl, below_trans hb1 hb2⟩
end Go.Proofs.Ytgnkdnjapbgdgaa.Wire
