/- Contract: slices.Equal at ints. Conditions: the slices read as lists. -/
import Derived.Test.YteimfdpkodcfbaaBs2
namespace Go.Proofs.Yteimfdpkodcfbaa
open Go.RowKit
set_option linter.unusedVariables false

end Go.Proofs.Yteimfdpkodcfbaa
