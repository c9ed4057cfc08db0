/-
  What the listed package variables give: the table of tens that strconv reads; the two errors of strconv.
-/
import Derived.Test.YtolhhfmahbpkiaaDoorText
import Derived.Test.YtolhhfmahbpkiaaDoorRows
import Derived.Lib.LaidTab
import Derived.Stop.LaidErr
namespace Go.Proofs.YtolhhfmahbpkiaaDoor.Laid
open Go.RowKit

theorem gTab : Tryd.prog.globalNamed "internal/strconv.uint64pow10" = some 3 := by kernel_rfl
theorem tTab : (Tryd.prog.globals[3]?).map (·.type) = some 115 := by kernel_rfl
theorem cTab : Tryd.prog.cellsOf 115 = 20 := by kernel_rfl
theorem cU : Tryd.prog.cellsOf 93 = 1 := by kernel_rfl

/-- the table, where it is the third on the list -/
theorem tens3 {W : World} {x y : String × DataW Unit} {rest : List (String × DataW Unit)} (h : laidMet Tryd.prog (x :: y :: ("internal/strconv.uint64pow10", Rows.laid_internal_strconv_uint64pow10) :: rest) W) : Text.Tens W :=
  Lib.tabIs_of_head (k := .u64) (zs := Lib.pow10Tab) gTab tTab Tryd.underlying115 Tryd.underlying93 cU cTab h.tail.tail
end Go.Proofs.YtolhhfmahbpkiaaDoor.Laid
