/- Three facts on the whole program, reckoned once for all laws of the seat. Conditions: none. -/
import Derived.Test.YteimfdpkodcfbaaRows
import Derived.WalkKit
import Derived.ProofKit
import Derived.JoinedOf
namespace Go.Proofs.Yteimfdpkodcfbaa
open Go.ChangeShapes Go.WideShapes Go.ChangeAt Go.RowKit

theorem may_enter : Try.prog.mayEnter = true := by kernel_rfl
theorem lifts_final : Try.prog.liftsFinal = false := by kernel_rfl
theorem made_how : Try.prog.make = some .cut := by kernel_rfl
end Go.Proofs.Yteimfdpkodcfbaa
