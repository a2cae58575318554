/- The walk of the law FnExactCountCodes. Conditions: none. -/
import Derived.Test.YtijjdidljoicfaaDoorCntJ
import Derived.Test.YtijjdidljoicfaaDoorSits
namespace Go.Proofs.YtijjdidljoicfaaDoor
open Go.RowKit
set_option linter.unusedVariables false

set_option maxHeartbeats 1000000 in
theorem walk_FnExactCountCodes (a0 : Int) (w : World) (w0 : (Lit.int .i64 a0).wf = true) (htz : TZ w) :
    Calls Tryd.prog 4 #[.int .i64 a0] w fun e w' => e = .returned (.bool true) ∧ Below w.heap.size w w' := by
  have B0 : Below w.heap.size w w := Below.refl _ _
  have HTZ := hid htz
  clear htz
  go_enter Tryd.func4, Tryd.ntmps4
  go_wp2_with fail
  refine (spec_CountCodes_any _ _ w0 (HTZ.out.below B0)).mono ?_
  rintro e W1 ⟨rfl, hb⟩
  have B1 := Below_chain B0 hb; have S1 := hb.size; clear hb B0
  go_wp2_with fail
  refine (impl_CountCodes_any _ _ w0 (HTZ.out.below B1)).mono ?_
  rintro e W2 ⟨rfl, hb⟩
  have B2 := Below_chain B1 hb; have S2 := hb.size; clear hb B1
  have hn1 : ((ccA a0) != (ccA a0)) = false := by simp
  have hn2 : ((inB a0 1 3) != (inB a0 1 3)) = false := by simp
  have hn3 : ((ccR a0) != (ccR a0)) = false := by simp
  go_wp2
  go_ret
  exact ⟨rfl, B2⟩
end Go.Proofs.YtijjdidljoicfaaDoor
