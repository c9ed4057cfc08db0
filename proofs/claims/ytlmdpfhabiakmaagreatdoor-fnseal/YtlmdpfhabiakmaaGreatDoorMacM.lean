/-
  The mark of a text (SealMac): the program's and the document's reckon one and the same number.
-/
import Derived.Test.YtlmdpfhabiakmaaGreatDoorProg
import Derived.WalkKit
import Derived.WalkLawsBesides
import Derived.Below
import Derived.WalkMore
import Derived.Outline
import Derived.Lib.Strings
import Derived.Deep.OwnRows
namespace Go.Proofs.YtlmdpfhabiakmaaGreatDoor.Mac
set_option linter.unusedVariables false
open Go.RowKit

theorem hide {p : Prop} (h : p) : Hid p := h
theorem unhide {p : Prop} (h : Hid p) : p := h
theorem below_trans {w w1 w2 : World} (h : Below w.heap.size w w1) (k : Below w1.heap.size w1 w2) : Below w.heap.size w w2 := h.trans (k.mono h.size)

/-- one byte more -/
def mac1 (h : Int) (b : UInt8) : Int := (h * 1315423 + (b.toNat : Int) + 7) % 1000000007
/-- the mark of bytes, from h on -/
def macF : Int → List UInt8 → Int
  | h, [] => h
  | h, b :: l => macF (mac1 h b) l
/-- a key brought into its bounds -/
def keyL (k : Int) : Int := if k < 0 then 0 else if 1000000006 < k then 1000000006 else k
/-- SealMac -/
def macL (k : Int) (l : List UInt8) : Int := macF (keyL k) l

theorem keyL_bd (k : Int) : 0 ≤ keyL k ∧ keyL k ≤ 1000000006 := by
  unfold keyL; split
  · omega
  · split <;> omega
theorem key3 (k : Int) : (k < 0 ∧ keyL k = 0) ∨ (0 ≤ k ∧ 1000000006 < k ∧ keyL k = 1000000006) ∨ (0 ≤ k ∧ k ≤ 1000000006 ∧ keyL k = k) := by
  unfold keyL; split
  · exact .inl ⟨by assumption, rfl⟩
  · split
    · exact .inr (.inl ⟨by omega, by assumption, rfl⟩)
    · exact .inr (.inr ⟨by omega, by omega, rfl⟩)
theorem mac1_bd (h : Int) (b : UInt8) : 0 ≤ mac1 h b ∧ mac1 h b ≤ 1000000006 := by unfold mac1; omega
theorem macF_bd : ∀ (l : List UInt8) (h : Int), 0 ≤ h ∧ h ≤ 1000000006 → 0 ≤ macF h l ∧ macF h l ≤ 1000000006
  | [], h, hh => hh
  | b :: l, h, hh => macF_bd l _ (mac1_bd h b)
theorem macL_bd (k : Int) (l : List UInt8) : 0 ≤ macL k l ∧ macL k l ≤ 1000000006 := macF_bd l _ (keyL_bd k)
theorem macF_append : ∀ (a b : List UInt8) (h : Int), macF h (a ++ b) = macF (macF h a) b
  | [], _, _ => rfl
  | x :: a, b, h => macF_append a b (mac1 h x)
theorem mulF {x y : Int} (e : x * 1315423 = 1000000007 * y) : ∃ t, x = 1000000007 * t := by
  refine ⟨223838265 * y - 294442 * x, ?_⟩
  grind
theorem mac1_inj {h h' : Int} {b : UInt8} (h1 : 0 ≤ h ∧ h ≤ 1000000006) (h2 : 0 ≤ h' ∧ h' ≤ 1000000006) (e : mac1 h b = mac1 h' b) : h = h' := by
  unfold mac1 at e
  have e1 := Int.emod_add_mul_ediv (h * 1315423 + (b.toNat : Int) + 7) 1000000007
  have e2 := Int.emod_add_mul_ediv (h' * 1315423 + (b.toNat : Int) + 7) 1000000007
  rw [e] at e1
  generalize (h * 1315423 + (b.toNat : Int) + 7) / 1000000007 = q1 at e1
  generalize (h' * 1315423 + (b.toNat : Int) + 7) / 1000000007 = q2 at e2
  generalize (h' * 1315423 + (b.toNat : Int) + 7) % 1000000007 = r at e1 e2
  clear e
  have e3 : (h - h') * 1315423 = 1000000007 * (q1 - q2) := by omega
  obtain ⟨t, e4⟩ := mulF e3
  obtain ⟨h3, h4⟩ := h1
  obtain ⟨h5, h6⟩ := h2
  clear e1 e2 e3
  omega
theorem macF_inj : ∀ (l : List UInt8) (h h' : Int), 0 ≤ h ∧ h ≤ 1000000006 → 0 ≤ h' ∧ h' ≤ 1000000006 → macF h l = macF h' l → h = h'
  | [], h, h', _, _, e => e
  | b :: l, h, h', h1, h2, e => mac1_inj h1 h2 (macF_inj l _ _ (mac1_bd h b) (mac1_bd h' b) e)
theorem mac1_byte {h : Int} {b c : UInt8} (hb : b ≠ c) : mac1 h b ≠ mac1 h c := by
  intro e
  apply hb
  apply UInt8.toNat_inj.1
  have h1 := b.toNat_lt
  have h2 := c.toNat_lt
  unfold mac1 at e; omega
/-- a text in which one byte is another one has another mark -/
theorem macF_one (a : List UInt8) {b c : UInt8} (l : List UInt8) (h : Int) (hb : b ≠ c) : macF h (a ++ b :: l) ≠ macF h (a ++ c :: l) := by
  rw [macF_append, macF_append]
  exact fun e => mac1_byte hb (macF_inj l _ _ (mac1_bd _ b) (mac1_bd _ c) e)
theorem macF_take {l : List UInt8} {k : Nat} {b : UInt8} (h : Int) (hb : l[k]? = some b) : macF h (l.take (k + 1)) = mac1 (macF h (l.take k)) b := by
  have : l.take (k + 1) = l.take k ++ [b] := by rw [List.take_add_one, hb]; rfl
  rw [this, macF_append]; rfl
theorem by_at {y : ByteArray} {k : Nat} (h : k < y.size) : y.data.toList[k]? = some y[k] := by
  have hl : y.data.toList.length = y.size := Array.length_toList
  rw [List.getElem?_eq_getElem (by omega)]; simp; rfl

theorem ret_of {k r h : Int} {l : List UInt8} {n : Nat} (h1 : macL k l = r) (h2 : macF (keyL k) (l.take n) = h) (h3 : l.length ≤ n) : Ending.returned (.int .i64 h) = .returned (.int .i64 r) := by
  rw [List.take_of_length_le h3] at h2
  rw [← h1, ← h2]; rfl

theorem lowS (k : Int) (w : World) : Calls Tryz.prog 33 #[.int .i64 k, .int .i64 1000000006] w fun e w' => e = .returned (.int .i64 (keyL k)) ∧ w' = w := by
  unfold keyL
  by_cases h0 : k < 0
  · rw [if_pos h0]
    go_enter Tryz.func33, Tryz.ntmps33
    go_wp2
    go_ret
    exact ⟨rfl, rfl⟩
  · rw [if_neg h0]
    by_cases h1 : 1000000006 < k
    · rw [if_pos h1]
      go_enter Tryz.func33, Tryz.ntmps33
      go_wp2
      go_ret
      exact ⟨rfl, rfl⟩
    · rw [if_neg h1]
      go_enter Tryz.func33, Tryz.ntmps33
      go_wp2
      go_ret
      exact ⟨rfl, rfl⟩

set_option maxHeartbeats 1000000 in
/-- spec.SealMac -/
theorem macS (k : Int) (s : ByteArray) (w : World) (hs : s.size ≤ maxLen) : Calls Tryz.prog 19 #[.int .i64 k, .string s] w fun e w' => e = .returned (.int .i64 (macL k s.data.toList)) ∧ Below w.heap.size w w' := by
  unfold maxLen at hs
  have hlen : s.data.toList.length = s.size := Array.length_toList
  have hk := keyL_bd k
  generalize hr : macL k s.data.toList = r
  have HR := hide hr; clear hr
  go_enter Tryz.func19, Tryz.ntmps19
  go_wp2_with (first | (go_at_call 33; refine (lowS _ _).mono ?_; rintro e w' ⟨rfl, rfl⟩))
  go_loop [5, 6] (fun t3 t4 => ∃ (h : Int) (j : Nat), j ≤ s.size ∧ t4 = .int .i64 j ∧ t3 = .int .i64 h ∧ (0 ≤ h ∧ h ≤ 1000000006) ∧ Hid (macF (keyL k) (s.data.toList.take j) = h)) (fun _ t4 => s.size - (intOf t4).toNat)
  case atStart => exact ⟨keyL k, 0, Nat.zero_le _, rfl, rfl, hk, hide (by simp [macF])⟩
  case round =>
    obtain ⟨h, j, hj, rfl, rfl, hh, hd⟩ := hrel
    by_cases hlt : j < s.size
    · have hb := s[j].toNat_lt
      have hd' : Hid (macF (keyL k) (s.data.toList.take (j + 1)) = mac1 h s[j]) := hide (by rw [macF_take _ (by_at hlt), unhide hd])
      go_wp2
      exact ⟨⟨mac1 h s[j], j + 1, by omega, by go_num, by unfold mac1; go_num, mac1_bd _ _, hd'⟩, by simp [intOf]; omega⟩
    · obtain rfl : j = s.size := by omega
      go_wp2
      go_ret
      exact ⟨ret_of (unhide HR) (unhide hd) (by omega), Below.refl _ _⟩

set_option maxHeartbeats 1000000 in
/-- impl.SealMac -/
theorem macI (k : Int) (s : ByteArray) (w : World) (hs : s.size ≤ maxLen) : Calls Tryz.prog 30 #[.int .i64 k, .string s] w fun e w' => e = .returned (.int .i64 (macL k s.data.toList)) ∧ Below w.heap.size w w' := by
  unfold maxLen at hs
  have hlen : s.data.toList.length = s.size := Array.length_toList
  have hk := keyL_bd k
  generalize hr : macL k s.data.toList = r
  have HR := hide hr; clear hr
  have hstart : ∀ h0 : Int, keyL k = h0 → 0 ≤ h0 ∧ h0 ≤ 1000000006 := fun h0 e => e ▸ hk
  rcases key3 k with ⟨k0, ek⟩ | ⟨k0, k1, ek⟩ | ⟨k0, k1, ek⟩
  all_goals
    have EK := hide ek
    clear ek hk
    go_enter Tryz.func30, Tryz.ntmps30
    go_wp2
    go_loop [5, 12] (fun t3 t4 => ∃ (h : Int) (j : Nat), j ≤ s.size ∧ t4 = .int .i64 j ∧ t3 = .int .i64 h ∧ (0 ≤ h ∧ h ≤ 1000000006) ∧ Hid (macF (keyL k) (s.data.toList.take j) = h)) (fun _ t4 => s.size - (intOf t4).toNat)
    case atStart => exact ⟨_, 0, Nat.zero_le _, rfl, rfl, hstart _ (unhide EK), hide (by simpa [macF] using unhide EK)⟩
    case round =>
      obtain ⟨h, j, hj, rfl, rfl, hh, hd⟩ := hrel
      by_cases hlt : j < s.size
      · have hb := s[j].toNat_lt
        have hd' : Hid (macF (keyL k) (s.data.toList.take (j + 1)) = mac1 h s[j]) := hide (by rw [macF_take _ (by_at hlt), unhide hd])
        go_wp2
        exact ⟨⟨mac1 h s[j], j + 1, by omega, by go_num, by unfold mac1; go_num, mac1_bd _ _, hd'⟩, by simp [intOf]; omega⟩
      · obtain rfl : j = s.size := by omega
        go_wp2
        go_ret
        exact ⟨ret_of (unhide HR) (unhide hd) (by omega), Below.refl _ _⟩
end Go.Proofs.YtlmdpfhabiakmaaGreatDoor.Mac
