/-
  Texts of this proof laid together, in build order; each says of itself what it holds.
-/
import Derived.Test.YtnchgeiinkaefaaGreatDoorCards
import Derived.Test.YtnchgeiinkaefaaGreatDoorTie
import Derived.Test.YtnchgeiinkaefaaGreatDoorZba
import Derived.Test.YtnchgeiinkaefaaGreatDoorZbb
import Derived.Test.YtnchgeiinkaefaaGreatDoorZas
import Derived.WalkKit
import Derived.ProofKit
import Derived.OpenShut
import Derived.ShutString
import Derived.ChangeOld
import Derived.Below
import Derived.LaidMore
import Derived.LaidHandle
import Derived.Deep.DeepHandedRow
import Derived.Deep.DeepWitnessRowRef
section
/-
  A part of the proof of FnExactBillRate: see its proof's text.
-/
namespace Go.Proofs.YtnchgeiinkaefaaGreatDoor.fnExactBillRate
open Go.ChangeShapes Go.WideShapes Go.ChangeAt Go.RowKit
open Go.ChangeMaps (open_string shut_string)
set_option linter.unusedVariables false

theorem laid_c (os : Os) : funcsRun Tryz.prog ((World.doorLaid Tryz.prog 400 os).forCall (fun _ _ => 0) ⟨#[], #[.slice none 0 0, .slice none 0 0], []⟩).memory 8 ((funcsListed Rows.fnExactBillRateRow.laid).map (·.1)) = some ((funcsListed Rows.fnExactBillRateRow.laid).map (·.2.funcsOut)) := by kernel_rfl
end Go.Proofs.YtnchgeiinkaefaaGreatDoor.fnExactBillRate
end
