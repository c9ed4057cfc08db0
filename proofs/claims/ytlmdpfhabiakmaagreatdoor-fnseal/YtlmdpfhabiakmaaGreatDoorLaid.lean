/-
  What the listed package variables give: the table of tens that strconv reads; the two errors of strconv.
-/
import Derived.Test.YtlmdpfhabiakmaaGreatDoorText
import Derived.Test.YtlmdpfhabiakmaaGreatDoorRows
import Derived.Lib.LaidTab
import Derived.Stop.LaidErr
namespace Go.Proofs.YtlmdpfhabiakmaaGreatDoor.Laid
open Go.RowKit

theorem gTab : Tryz.prog.globalNamed "internal/strconv.uint64pow10" = some 5 := by kernel_rfl
theorem tTab : (Tryz.prog.globals[5]?).map (·.type) = some 127 := by kernel_rfl
theorem cTab : Tryz.prog.cellsOf 127 = 20 := by kernel_rfl
theorem cU : Tryz.prog.cellsOf 96 = 1 := by kernel_rfl

/-- the table, where it is the third on the list -/
theorem tens3 {W : World} {x y : String × DataW Unit} {rest : List (String × DataW Unit)} (h : laidMet Tryz.prog (x :: y :: ("internal/strconv.uint64pow10", Rows.laid_internal_strconv_uint64pow10) :: rest) W) : Text.Tens W :=
  Lib.tabIs_of_head (k := .u64) (zs := Lib.pow10Tab) gTab tTab Tryz.underlying127 Tryz.underlying96 cU cTab h.tail.tail
end Go.Proofs.YtlmdpfhabiakmaaGreatDoor.Laid
