/-
  The place of a byte in a text (spec.l18Find).
-/
import Derived.Test.YtlgmelmagciopaaDoorProg
import Derived.WalkKit
import Derived.WalkLawsBesides
import Derived.Below
namespace Go.Proofs.YtlgmelmagciopaaDoor.Find
set_option linter.unusedVariables false
open Go.RowKit

/-- r is the first place of the byte c in l, -1 if it is not there -/
def IsFind (l : List UInt8) (c : UInt8) (r : Int) : Prop := (r = -1 ∧ ∀ b ∈ l, b ≠ c) ∨ ∃ k : Nat, r = k ∧ l[k]? = some c ∧ ∀ j, j < k → l[j]? ≠ some c

theorem at_ (s : ByteArray) (k : Nat) (h : k < s.size) : s.data.toList[k]? = some s[k] := by
  rw [List.getElem?_eq_getElem (by simpa using h)]; rfl

theorem find (s : ByteArray) (c : UInt8) (w : World) (hs : s.size ≤ maxLen) :
    Calls Tryd.prog 27 #[.string s, .int .u8 c.toNat] w fun e w' => ∃ r : Int, e = .returned (.int .i64 r) ∧ IsFind s.data.toList c r ∧ w' = w := by
  unfold maxLen at hs
  go_enter Tryd.func27, Tryd.ntmps27
  go_wp2
  go_loop [5] (fun i => ∃ k : Nat, k ≤ s.size ∧ i = .int .i64 k ∧ Hid (∀ j, j < k → s.data.toList[j]? ≠ some c)) (fun i => s.size - (intOf i).toNat)
  case atStart => exact ⟨0, Nat.zero_le _, rfl, fun j hj => by omega⟩
  case round =>
    obtain ⟨k, hk, rfl, hn⟩ := hrel
    by_cases hlt : k < s.size
    · by_cases hc : s[k] = c
      · have hc' : ((s[k].toNat : Int) == (c.toNat : Int)) = true := by rw [hc]; simp
        have HC : Hid (s[k] = c) := hc
        clear hc
        go_wp2
        go_ret
        exact ⟨k, rfl, .inr ⟨k, rfl, by rw [at_ s k hlt]; exact congrArg some HC.out, hn.out⟩, rfl⟩
      · have hc' : ((s[k].toNat : Int) == (c.toNat : Int)) = false := by
          simp only [beq_eq_false_iff_ne, ne_eq]; intro e; exact hc (UInt8.toNat_inj.1 (by omega))
        have HC : Hid (¬ s[k] = c) := hc
        clear hc
        go_wp2
        refine ⟨⟨k + 1, by omega, by go_num, fun j hj => ?_⟩, by simp [intOf]; omega⟩
        by_cases hj' : j < k
        · exact hn.out j hj'
        · obtain rfl : j = k := by omega
          rw [at_ s j hlt]
          exact fun e => HC.out (Option.some.inj e)
    · go_wp2
      go_ret
      refine ⟨-1, rfl, .inl ⟨rfl, ?_⟩, rfl⟩
      intro b hb e
      obtain ⟨j, hj, rfl⟩ := List.getElem_of_mem hb
      have hj' : j < s.size := by simpa using hj
      exact hn j (by omega) (by rw [List.getElem?_eq_getElem hj, e])
end Go.Proofs.YtlgmelmagciopaaDoor.Find
