/- The walk of the law FnExactCountBruijn. Conditions: none. -/
import Derived.Test.YtaajfpjekfmddabBr7
import Derived.Test.YtaajfpjekfmddabBs1
namespace Go.Proofs.Ytaajfpjekfmddab
open Go.RowKit
set_option linter.unusedVariables false

set_option maxHeartbeats 1000000 in
theorem walk_FnExactCountBruijn (a0 : Int) (a1 : Int) (w : World) (w0 : (Lit.int .i64 a0).wf = true) (w1 : (Lit.int .i64 a1).wf = true) :
    Calls Try.prog 4 #[.int .i64 a0, .int .i64 a1] w fun e w' => e = .returned (.bool true) ∧ Below w.heap.size w w' := by
  have B0 : Below w.heap.size w w := Below.refl _ _
  go_enter Try.func4, Try.ntmps4
  go_wp2_with fail
  refine (law_spec_CountBruijn _ _ _ w0 w1).mono ?_
  rintro e W1 ⟨rfl, hb⟩
  have B1 := Below_chain B0 hb; have S1 := hb.size; clear hb B0
  go_wp2_with fail
  refine (law_impl_CountBruijn _ _ _ w0 w1).mono ?_
  rintro e W2 ⟨rfl, hb⟩
  have B2 := Below_chain B1 hb; have S2 := hb.size; clear hb B1
  have hn1 : ((cbN a0 a1) != (cbN a0 a1)) = false := by simp
  have hn2 : ((cbB a0 a1) != (cbB a0 a1)) = false := by simp
  go_wp2
  go_ret
  exact ⟨rfl, B2⟩
end Go.Proofs.Ytaajfpjekfmddab
