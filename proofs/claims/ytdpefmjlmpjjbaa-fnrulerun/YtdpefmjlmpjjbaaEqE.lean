/-
  eqRuleExpr, eqRuleExprS, of one and the same expression in two places.
-/
import Derived.Test.YtdpefmjlmpjjbaaCopy2
namespace Go.Proofs.Ytdpefmjlmpjjbaa.Rule
set_option linter.unusedVariables false
open Go.RowKit Tiers

end Go.Proofs.Ytdpefmjlmpjjbaa.Rule
