/-
  What the listed package variables give: the table of tens that strconv reads; the two errors of strconv.
-/
import Derived.Test.YtpamdnkngedmaaaDoorText
import Derived.Test.YtpamdnkngedmaaaDoorRows
import Derived.Lib.LaidTab
import Derived.Stop.LaidErr
namespace Go.Proofs.YtpamdnkngedmaaaDoor.Laid
open Go.RowKit

theorem gTab : Tryd.prog.globalNamed "internal/strconv.uint64pow10" = some 1 := by kernel_rfl
theorem tTab : (Tryd.prog.globals[1]?).map (·.type) = some 72 := by kernel_rfl
theorem cTab : Tryd.prog.cellsOf 72 = 20 := by kernel_rfl
theorem cU : Tryd.prog.cellsOf 59 = 1 := by kernel_rfl

/-- the table, where it is the third on the list -/
theorem tens3 {W : World} {x y : String × DataW Unit} {rest : List (String × DataW Unit)} (h : laidMet Tryd.prog (x :: y :: ("internal/strconv.uint64pow10", Rows.laid_internal_strconv_uint64pow10) :: rest) W) : Text.Tens W :=
  Lib.tabIs_of_head (k := .u64) (zs := Lib.pow10Tab) gTab tTab Tryd.underlying72 Tryd.underlying59 cU cTab h.tail.tail
end Go.Proofs.YtpamdnkngedmaaaDoor.Laid
