/- The walk of the law FnExactAdjacentHalves. Conditions: none. -/
import Derived.Test.YtijjdidljoicfabHlvI
import Derived.Test.YtijjdidljoicfabSits
namespace Go.Proofs.Ytijjdidljoicfab
open Go.RowKit
set_option linter.unusedVariables false

set_option maxHeartbeats 1000000 in
theorem walk_FnExactAdjacentHalves (a0 : Int) (a1 : Int) (w : World) (w0 : (Lit.int .i64 a0).wf = true) (w1 : (Lit.int .i64 a1).wf = true) :
    Calls Try.prog 5 #[.int .i64 a0, .int .i64 a1] w fun e w' => e = .returned (.bool true) ∧ Below w.heap.size w w' := by
  have B0 : Below w.heap.size w w := Below.refl _ _
  go_enter Try.func5, Try.ntmps5
  go_wp2_with fail
  refine (spec_AdjacentHalves_any _ _ _ w0 w1).mono ?_
  rintro e W1 ⟨rfl, hb⟩
  have B1 := Below_chain B0 hb; have S1 := hb.size; clear hb B0
  go_wp2_with fail
  refine (impl_AdjacentHalves_any _ _ _ w0 w1).mono ?_
  rintro e W2 ⟨rfl, hb⟩
  have B2 := Below_chain B1 hb; have S2 := hb.size; clear hb B1
  have hn1 : (((ahE a0 a1)) != ((ahE a0 a1))) = false := by simp
  have hn2 : (((szB a0 a1)) != ((szB a0 a1))) = false := by simp
  have hn3 : (((ahO a0 a1)) != ((ahO a0 a1))) = false := by simp
  go_wp2
  go_ret
  exact ⟨rfl, B2⟩
end Go.Proofs.Ytijjdidljoicfab
