/-
  FnExactCoinText: the law's walk.
-/
import Derived.Test.YtlgmelmagciopaaDoorText
namespace Go.Proofs.YtlgmelmagciopaaDoor.Text
set_option linter.unusedVariables false
open Go.RowKit
open Dec (below2)

theorem exactText (a0 : Int) (w : World) (ht : Tens w) :
    Calls Tryd.prog 4 #[.int .i64 a0] w fun e w' => e = .returned (.bool true) ∧ Below w.heap.size w w' := by
  go_enter Tryd.func4, Tryd.ntmps4
  go_wp2_with fail
  refine (textS a0 w).mono ?_
  rintro e w1 ⟨rfl, hb1⟩
  go_wp2_with fail
  refine (textI a0 w1 (ht.kept hb1)).mono ?_
  rintro e w2 ⟨rfl, hb2⟩
  go_wp2
  go_ret
  exact ⟨rfl, below2 hb1 hb2⟩

end Go.Proofs.YtlgmelmagciopaaDoor.Text
