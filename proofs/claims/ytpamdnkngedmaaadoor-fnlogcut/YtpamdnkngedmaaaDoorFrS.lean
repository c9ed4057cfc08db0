/-
  The sum of a text and its frame: spec.l9Sum, spec.LogFrame, impl.logSum.
-/
import Derived.Test.YtpamdnkngedmaaaDoorFrM
import Derived.Test.YtpamdnkngedmaaaDoorDec
import Derived.WalkMore
import Derived.Outline
import Derived.Deep.QuietTactic
import Derived.BigQuiet
namespace Go.Proofs.YtpamdnkngedmaaaDoor.Fr
set_option linter.unusedVariables false
open Go.RowKit

theorem hide {p : Prop} (h : p) : Hid p := h
theorem unhide {p : Prop} (h : Hid p) : p := h
theorem below_trans {w w1 w2 : World} (h : Below w.heap.size w w1) (k : Below w1.heap.size w1 w2) : Below w.heap.size w w2 := h.trans (k.mono h.size)
theorem by_at {y : ByteArray} {k : Nat} (h : k < y.size) : y.data.toList[k]? = some y[k] := by
  have hl : y.data.toList.length = y.size := Array.length_toList
  rw [List.getElem?_eq_getElem (by omega)]; simp; rfl
theorem bytesOf_size (l : List UInt8) : (Num.bytesOf l).size = l.length := by simp [Num.bytesOf, ByteArray.size]
theorem bytesOf_list (l : List UInt8) : (Num.bytesOf l).data.toList = l := by simp [Num.bytesOf]
theorem ret_of {r h : Int} {l : List UInt8} {n : Nat} (h1 : sumL l = r) (h2 : sumF 7 (l.take n) = h) (h3 : l.length ≤ n) : Ending.returned (.int .i64 h) = .returned (.int .i64 r) := by
  rw [List.take_of_length_le h3] at h2
  rw [← h1, ← h2]; rfl

set_option maxHeartbeats 1000000 in
/-- spec.l9Sum -/
theorem sumS (s : ByteArray) (w : World) (hs : s.size ≤ 100000000) : Calls Tryd.prog 26 #[.string s] w fun e w' => e = .returned (.int .i64 (sumL s.data.toList)) ∧ w' = w := by
  have hlen : s.data.toList.length = s.size := Array.length_toList
  generalize hr : sumL s.data.toList = r
  have HR := hide hr; clear hr
  go_enter Tryd.func26, Tryd.ntmps26
  go_wp2
  go_loop [3, 4] (fun t3 t4 => ∃ (h : Int) (j : Nat), j ≤ s.size ∧ t4 = .int .i64 j ∧ t3 = .int .i64 h ∧ (0 ≤ h ∧ h ≤ 65520) ∧ Hid (sumF 7 (s.data.toList.take j) = h)) (fun _ t4 => s.size - (intOf t4).toNat)
  case atStart => exact ⟨7, 0, Nat.zero_le _, rfl, rfl, by omega, hide (by simp [sumF])⟩
  case round =>
    obtain ⟨h, j, hj, rfl, rfl, hh, hd⟩ := hrel
    by_cases hlt : j < s.size
    · have hb := s[j].toNat_lt
      have hd' : Hid (sumF 7 (s.data.toList.take (j + 1)) = sum1 h s[j]) := hide (by rw [sumF_take _ (by_at hlt), unhide hd])
      go_wp2
      exact ⟨⟨sum1 h s[j], j + 1, by omega, by go_num, by unfold sum1; go_num, sum1_bd _ _, hd'⟩, by simp [intOf]; omega⟩
    · obtain rfl : j = s.size := by omega
      go_wp2
      go_ret
      exact ⟨ret_of (unhide HR) (unhide hd) (by omega), rfl⟩

set_option maxHeartbeats 1000000 in
/-- impl.logSum -/
theorem sumI (s : ByteArray) (w : World) (hs : s.size ≤ 100000000) : Calls Tryd.prog 24 #[.string s] w fun e w' => e = .returned (.int .i64 (sumL s.data.toList)) ∧ w' = w := by
  have hlen : s.data.toList.length = s.size := Array.length_toList
  generalize hr : sumL s.data.toList = r
  have HR := hide hr; clear hr
  go_enter Tryd.func24, Tryd.ntmps24
  go_wp2
  go_loop [3, 7] (fun t3 t4 => ∃ (h : Int) (j : Nat), j ≤ s.size ∧ t4 = .int .i64 j ∧ t3 = .int .i64 h ∧ (0 ≤ h ∧ h ≤ 65520) ∧ Hid (sumF 7 (s.data.toList.take j) = h)) (fun _ t4 => s.size - (intOf t4).toNat)
  case atStart => exact ⟨7, 0, Nat.zero_le _, rfl, rfl, by omega, hide (by simp [sumF])⟩
  case round =>
    obtain ⟨h, j, hj, rfl, rfl, hh, hd⟩ := hrel
    by_cases hlt : j < s.size
    · have hb := s[j].toNat_lt
      have hd' : Hid (sumF 7 (s.data.toList.take (j + 1)) = sum1 h s[j]) := hide (by rw [sumF_take _ (by_at hlt), unhide hd])
      go_wp2
      exact ⟨⟨sum1 h s[j], j + 1, by omega, by go_num, by unfold sum1; go_num, sum1_bd _ _, hd'⟩, by simp [intOf]; omega⟩
    · obtain rfl : j = s.size := by omega
      go_wp2
      go_ret
      exact ⟨ret_of (unhide HR) (unhide hd) (by omega), rfl⟩

theorem frB_cat (t : ByteArray) (L1 L2 : List UInt8) (h1 : Lib.itoa (t.size : Int) = L1) (h2 : Lib.itoa (sumL t.data.toList) = L2) :
    (((((⟨L1.toArray⟩ : ByteArray) ++ ⟨#[32]⟩) ++ ⟨L2.toArray⟩) ++ ⟨#[32]⟩) ++ t) ++ ⟨#[10]⟩ = Num.bytesOf (frB t.data.toList) := by
  apply ext
  unfold frB Num.bytesOf
  rw [toL, h1, h2]
  simp

theorem dig_len (n : Int) (h : 0 ≤ n) (h' : n ≤ 65520) : ∃ L : List UInt8, Lib.itoa n = L ∧ L.length ≤ 20 := by
  obtain ⟨m, rfl⟩ := Int.eq_ofNat_of_zero_le h
  exact ⟨_, rfl, by rw [Lib.itoa_nonneg]; exact Dec.nDig m (by omega)⟩

set_option maxHeartbeats 1000000 in
/-- spec.LogFrame -/
theorem frameS (t : ByteArray) (w : World) (hs : t.size ≤ maxLen) : Calls Tryd.prog 10 #[.string t] w fun e w' => e = .returned (.string (Num.bytesOf (frT t.data.toList))) ∧ Below w.heap.size w w' := by
  have hs' := hs
  unfold maxLen at hs'
  by_cases hl : t.size ≤ 1000
  · rw [frT_of (by rw [toL]; exact hl)]
    obtain ⟨L1, e1, l1⟩ := dig_len (t.size : Int) (by omega) (by omega)
    obtain ⟨L2, e2, l2⟩ := dig_len (sumL t.data.toList) (sumL_bd _).1 (sumL_bd _).2
    have hc := frB_cat t L1 L2 e1 e2
    generalize Num.bytesOf (frB t.data.toList) = R at *
    have HC := hide hc; clear hc
    have hsz1 : (⟨L1.toArray⟩ : ByteArray).size = L1.length := by simp [ByteArray.size]
    have hsz2 : (⟨L2.toArray⟩ : ByteArray).size = L2.length := by simp [ByteArray.size]
    have hb := sumL_bd t.data.toList
    have hsum := sumS t
    generalize sumL t.data.toList = z at *
    have D1 := Dec.dec (t.size : Int)
    have D2 := Dec.dec z
    rw [e1] at D1; rw [e2] at D2
    have HD1 := hide D1; have HD2 := hide D2
    clear D1 D2 e1 e2
    have HS := hide hsum; clear hsum
    go_enter Tryd.func10, Tryd.ntmps10
    go_wp2_with (fail)
    refine (unhide HD1 _ (by omega) (by omega)).mono ?_
    rintro e w1 ⟨rfl, hb1⟩
    go_wp2_with (fail)
    refine (unhide HS _ (by omega)).mono ?_
    rintro e w2 ⟨rfl, rfl⟩
    go_wp2_with (fail)
    refine (unhide HD2 _ (by omega) (by omega)).mono ?_
    rintro e w3 ⟨rfl, hb3⟩
    go_wp2
    go_ret
    exact ⟨congrArg (fun x => Ending.returned (.string x)) (unhide HC), below_trans hb1 hb3⟩
  · rw [frT_no (by rw [toL]; exact hl)]
    go_enter Tryd.func10, Tryd.ntmps10
    go_wp2
    go_ret
    exact ⟨rfl, Below.refl _ _⟩
end Go.Proofs.YtpamdnkngedmaaaDoor.Fr
