/-
  eqRuleExpr, eqRuleExprS, of one and the same expression in two places.
-/
import Derived.Test.YtmdkicddcjnhdaaCopy2
namespace Go.Proofs.Ytmdkicddcjnhdaa.Rule
set_option linter.unusedVariables false
open Go.RowKit Tiers

end Go.Proofs.Ytmdkicddcjnhdaa.Rule
