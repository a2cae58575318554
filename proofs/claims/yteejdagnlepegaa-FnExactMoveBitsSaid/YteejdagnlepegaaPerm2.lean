/- The walk of the law FnExactIsPermutation. Conditions: none. -/
import Derived.Test.YteejdagnlepegaaPerm1
namespace Go.Proofs.Yteejdagnlepegaa
open Go.RowKit
set_option linter.unusedVariables false

end Go.Proofs.Yteejdagnlepegaa
