/-
  Words that name an event: impl.UseId and spec.UseId answer the same, and the law on them.
-/
import Derived.Test.YthhkjbhkginecaaProg
import Derived.WalkKit
import Derived.WalkLawsBesides
import Derived.Below
import Derived.WalkMore
import Derived.Outline
import Derived.Lib.Strings
import Derived.Deep.OwnRows
namespace Go.Proofs.Ythhkjbhkginecaa.Ids
set_option linter.unusedVariables false
open Go.RowKit

theorem hide {p : Prop} (h : p) : Hid p := h
theorem unhide {p : Prop} (h : Hid p) : p := h
theorem below_trans {w w1 w2 : World} (h : Below w.heap.size w w1) (k : Below w1.heap.size w1 w2) : Below w.heap.size w w2 := h.trans (k.mono h.size)

/-- a letter or a digit -/
def signB (c : UInt8) : Prop := (97 ≤ (c.toNat : Int) ∧ (c.toNat : Int) ≤ 122) ∨ (48 ≤ (c.toNat : Int) ∧ (c.toNat : Int) ≤ 57)
instance (c : UInt8) : Decidable (signB c) := by unfold signB; infer_instance
/-- UseId -/
def idB (s : ByteArray) : Bool := decide (1 ≤ s.size ∧ s.size ≤ 8) && s.data.toList.all fun c => decide (signB c)

theorem idB_size {s : ByteArray} (h : ¬ (1 ≤ s.size ∧ s.size ≤ 8)) : idB s = false := by unfold idB; rw [decide_eq_false h]; simp
theorem idB_sign {s : ByteArray} {k : Nat} (hk : k < s.size) (h : ¬ signB s[k]) : idB s = false := by
  have : (s.data.toList.all fun c => decide (signB c)) = false := by
    rw [List.all_eq_false]
    refine ⟨s[k], ?_, ?_⟩
    · exact Array.getElem_mem_toList (xs := s.data) hk
    · rw [decide_eq_false h]; simp
  unfold idB; rw [this]; simp
theorem idB_true {s : ByteArray} (h : 1 ≤ s.size ∧ s.size ≤ 8) (hl : ∀ j (hj : j < s.size), signB s[j]) : idB s = true := by
  have : (s.data.toList.all fun c => decide (signB c)) = true := by
    rw [List.all_eq_true]
    intro c hc
    obtain ⟨j, hj, rfl⟩ := List.getElem_of_mem hc
    exact decide_eq_true (hl j (by simpa using hj))
  unfold idB; rw [this, decide_eq_true h]; simp

set_option maxHeartbeats 1000000 in
/-- spec.UseId -/
theorem idS (s : ByteArray) (w : World) (hs : s.size ≤ maxLen) : Calls Try.prog 54 #[.string s] w fun e w' => e = .returned (.bool (idB s)) ∧ Below w.heap.size w w' := by
  unfold maxLen at hs
  by_cases hsz : 1 ≤ s.size ∧ s.size ≤ 8
  · obtain ⟨z1, z2⟩ := hsz
    have y1 : (1 : Int) ≤ (s.size : Int) := by omega
    have y2 : (s.size : Int) ≤ 8 := by omega
    generalize hr : idB s = r
    have HR := hide hr; clear hr
    go_enter Try.func54, Try.ntmps54
    go_wp2
    go_loop [3] (fun i => ∃ k : Nat, k ≤ s.size ∧ i = .int .i64 k ∧ Hid (∀ j (hj : j < s.size), j < k → signB s[j])) (fun i => s.size - (intOf i).toNat)
    case atStart => exact ⟨0, Nat.zero_le _, rfl, hide (fun j hj h => by omega)⟩
    case round =>
      obtain ⟨k, hk, rfl, hd⟩ := hrel
      by_cases hlt : k < s.size
      · by_cases hc : signB s[k]
        · have hd' : Hid (∀ j (hj : j < s.size), j < k + 1 → signB s[j]) := hide (fun j hj h => by
            by_cases e : j < k
            · exact unhide hd j hj e
            · obtain rfl : j = k := by omega
              exact hc)
          rcases hc with ⟨a1, a2⟩ | ⟨a1, a2⟩
          · go_wp2
            exact ⟨⟨k + 1, by omega, by go_num, hd'⟩, by simp [intOf]; omega⟩
          · have a3 : (s[k].toNat : Int) < 97 := by omega
            go_wp2
            exact ⟨⟨k + 1, by omega, by go_num, hd'⟩, by simp [intOf]; omega⟩
        · have hr : r = false := (unhide HR).symm.trans (idB_sign hlt hc)
          subst hr
          simp only [signB, not_or, not_and] at hc
          by_cases h48 : (s[k].toNat : Int) < 48
          · have h97 : (s[k].toNat : Int) < 97 := by omega
            clear hc
            go_wp2
            go_ret
            exact ⟨rfl, Below.refl _ _⟩
          · by_cases h97 : (s[k].toNat : Int) < 97
            · have h57 : 57 < (s[k].toNat : Int) := by omega
              clear hc
              go_wp2
              go_ret
              exact ⟨rfl, Below.refl _ _⟩
            · have h122 : 122 < (s[k].toNat : Int) := by omega
              have h57 : 57 < (s[k].toNat : Int) := by omega
              clear hc
              go_wp2
              go_ret
              exact ⟨rfl, Below.refl _ _⟩
      · have hr : r = true := (unhide HR).symm.trans (idB_true ⟨z1, z2⟩ (fun j hj => unhide hd j hj (by omega)))
        subst hr
        go_wp2
        go_ret
        exact ⟨rfl, Below.refl _ _⟩
  · rw [idB_size hsz]
    by_cases z1 : (s.size : Int) < 1
    · go_enter Try.func54, Try.ntmps54
      go_wp2
      go_ret
      exact ⟨rfl, Below.refl _ _⟩
    · have z2 : (8 : Int) < s.size := by omega
      go_enter Try.func54, Try.ntmps54
      go_wp2
      go_ret
      exact ⟨rfl, Below.refl _ _⟩

set_option maxHeartbeats 1000000 in
/-- impl.UseId -/
theorem idI (s : ByteArray) (w : World) (hs : s.size ≤ maxLen) : Calls Try.prog 56 #[.string s] w fun e w' => e = .returned (.bool (idB s)) ∧ Below w.heap.size w w' := by
  unfold maxLen at hs
  by_cases hsz : 1 ≤ s.size ∧ s.size ≤ 8
  · obtain ⟨z1, z2⟩ := hsz
    have y1 : (1 : Int) ≤ (s.size : Int) := by omega
    have y2 : (s.size : Int) ≤ 8 := by omega
    generalize hr : idB s = r
    have HR := hide hr; clear hr
    go_enter Try.func56, Try.ntmps56
    go_wp2
    go_loop [16] (fun i => ∃ k : Nat, k ≤ s.size ∧ i = .int .i64 k ∧ Hid (∀ j (hj : j < s.size), j < k → signB s[j])) (fun i => s.size - (intOf i).toNat)
    case atStart => exact ⟨0, Nat.zero_le _, rfl, hide (fun j hj h => by omega)⟩
    case round =>
      obtain ⟨k, hk, rfl, hd⟩ := hrel
      by_cases hlt : k < s.size
      · by_cases hc : signB s[k]
        · have hd' : Hid (∀ j (hj : j < s.size), j < k + 1 → signB s[j]) := hide (fun j hj h => by
            by_cases e : j < k
            · exact unhide hd j hj e
            · obtain rfl : j = k := by omega
              exact hc)
          rcases hc with ⟨a1, a2⟩ | ⟨a1, a2⟩
          · have a3 : (48 : Int) ≤ s[k].toNat := by omega
            have a4 : (57 : Int) < s[k].toNat := by omega
            go_wp2
            exact ⟨⟨k + 1, by omega, by go_num, hd'⟩, by simp [intOf]; omega⟩
          · have a3 : (s[k].toNat : Int) < 97 := by omega
            go_wp2
            exact ⟨⟨k + 1, by omega, by go_num, hd'⟩, by simp [intOf]; omega⟩
        · have hr : r = false := (unhide HR).symm.trans (idB_sign hlt hc)
          subst hr
          simp only [signB, not_or, not_and] at hc
          by_cases h48 : (s[k].toNat : Int) < 48
          · have h97 : (s[k].toNat : Int) < 97 := by omega
            clear hc
            go_wp2
            go_ret
            exact ⟨rfl, Below.refl _ _⟩
          · by_cases h97 : (s[k].toNat : Int) < 97
            · have h57 : (!decide ((s[k].toNat : Int) ≤ 57)) = true := by rw [decide_eq_false (by omega)]; rfl
              clear hc
              go_wp2
              go_ret
              exact ⟨rfl, Below.refl _ _⟩
            · have h122 : (!decide ((s[k].toNat : Int) ≤ 122)) = true := by rw [decide_eq_false (by omega)]; rfl
              have h57 : (!decide ((s[k].toNat : Int) ≤ 57)) = true := by rw [decide_eq_false (by omega)]; rfl
              clear hc
              go_wp2
              go_ret
              exact ⟨rfl, Below.refl _ _⟩
      · have hr : r = true := (unhide HR).symm.trans (idB_true ⟨z1, z2⟩ (fun j hj => unhide hd j hj (by omega)))
        subst hr
        go_wp2
        go_ret
        exact ⟨rfl, Below.refl _ _⟩
  · rw [idB_size hsz]
    by_cases z1 : (s.size : Int) < 1
    · go_enter Try.func56, Try.ntmps56
      go_wp2
      go_ret
      exact ⟨rfl, Below.refl _ _⟩
    · have z2 : (8 : Int) < s.size := by omega
      go_enter Try.func56, Try.ntmps56
      go_wp2
      go_ret
      exact ⟨rfl, Below.refl _ _⟩

end Go.Proofs.Ythhkjbhkginecaa.Ids
