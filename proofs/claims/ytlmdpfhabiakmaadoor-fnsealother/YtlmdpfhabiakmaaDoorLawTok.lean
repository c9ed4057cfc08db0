/-
  FnExactSealMake, FnExactSealCheck, FnExactSealText.
-/
import Derived.Test.YtlmdpfhabiakmaaDoorTokC
import Derived.Deep.SlicePairs
import Derived.Lib.SmallJoins
namespace Go.Proofs.YtlmdpfhabiakmaaDoor.Tok
set_option linter.unusedVariables false
open Go.RowKit
open Num (bytesOf)
open Strs hiding hide unhide below_trans
open Mac (hide unhide below_trans macL macL_bd macI macS)
open Boxes (At box1 box2)
open _root_.Go.Proofs.YtlmdpfhabiakmaaDoor.Text (Tens itoaI)

theorem wf_i64 {n : Int} (h : (Lit.int .i64 n).wf = true) : i64 n := by
  simpa [Lit.wf, IntKind.min, IntKind.max, IntKind.signed, IntKind.bits, i64] using h

end Go.Proofs.YtlmdpfhabiakmaaDoor.Tok
