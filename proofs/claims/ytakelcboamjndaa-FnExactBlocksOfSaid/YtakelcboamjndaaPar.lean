/- Contracts: both ParentsOf. Conditions: slices that are not nil and read as lists of at most 2^20 numbers. -/
import Derived.Test.YtakelcboamjndaaBal2
namespace Go.Proofs.Ytakelcboamjndaa
open Go.RowKit Go.Maps
set_option linter.unusedVariables false
set_option maxRecDepth 4000

end Go.Proofs.Ytakelcboamjndaa
