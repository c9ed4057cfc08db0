/-
  FnExactLogFrame.
-/
import Derived.Test.YtpamdnkngedmaaaDoorFrI
namespace Go.Proofs.YtpamdnkngedmaaaDoor.Fr
set_option linter.unusedVariables false
open Go.RowKit

theorem lawFrame (s : ByteArray) (w : World) (hs : s.size ≤ maxLen) (ht : _root_.Go.Proofs.YtpamdnkngedmaaaDoor.Text.Tens w) :
    Calls Tryd.prog 5 #[.string s] w fun e w' => e = .returned (.bool true) ∧ Below w.heap.size w w' := by
  have hs' := hs
  unfold maxLen at hs'
  by_cases hbig : 1048576 < s.size
  · go_enter Tryd.func5, Tryd.ntmps5
    go_wp2
    go_ret
    exact ⟨rfl, Below.refl _ _⟩
  · go_enter Tryd.func5, Tryd.ntmps5
    go_wp2_with (fail)
    refine (frameS s _ hs).mono ?_
    rintro e w1 ⟨rfl, hb1⟩
    go_wp2_with (fail)
    refine (frameI s _ hs (ht.kept hb1)).mono ?_
    rintro e w2 ⟨rfl, hb2⟩
    generalize Num.bytesOf (frT s.data.toList) = F
    have hb := below_trans hb1 hb2
    go_wp2
    go_ret
    exact ⟨rfl, hb⟩
end Go.Proofs.YtpamdnkngedmaaaDoor.Fr
