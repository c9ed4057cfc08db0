/-
  Texts that mark, and what may grow; no helper of the laws in it.
-/
import Derived.Test.YtpamdnkngedmaaaDoorRegIn
import Derived.Below
namespace Go.Proofs.YtpamdnkngedmaaaDoor.Evs
set_option linter.unusedVariables false
open Go.RowKit RegIn

/-- the digits of a number, none of nought -/
def digs : Nat → List UInt8
  | 0 => []
  | k + 1 => digs ((k + 1) / 10) ++ [UInt8.ofNat (48 + (k + 1) % 10)]
termination_by k => k
decreasing_by omega
theorem digs_pos {k : Nat} (h : 0 < k) : digs k = digs (k / 10) ++ [UInt8.ofNat (48 + k % 10)] := by
  cases k with
  | zero => omega
  | succ k => rw [digs]
theorem digs_zero : digs 0 = [] := by rw [digs]
/-- the text that marks -/
def mt (k : Nat) : ByteArray := ⟨(109 :: digs k).toArray⟩

theorem grow0 (w : World) (r : Option Nat) : w.grownBy w r := World.grownBy.refl _ _
theorem growB {a b : World} (h : Below a.heap.size a b) (r : Option Nat) : a.grownBy b r := ⟨h.os, h.tape, h.output, h.size, fun j hj _ => h.block j hj⟩
theorem growT {a b c : World} {r : Option Nat} (h : a.grownBy b r) (k : b.grownBy c r) : a.grownBy c r :=
  ⟨k.os.trans h.os, k.tape.trans h.tape, k.output.trans h.output, Nat.le_trans h.size k.size, fun j hj hne => (k.block j (Nat.lt_of_lt_of_le hj h.size) hne).trans (h.block j hj hne)⟩
theorem growS (w : World) (b o : Nat) (u : Value) : w.grownBy (w.setCell ⟨b, o, none⟩ u) (some b) := by
  refine ⟨rfl, rfl, rfl, ?_, ?_⟩
  · simp
  · intro j hj hne
    exact Below.heap_setCell w ⟨b, o, none⟩ u j (fun e => hne (by rw [e]))

end Go.Proofs.YtpamdnkngedmaaaDoor.Evs
