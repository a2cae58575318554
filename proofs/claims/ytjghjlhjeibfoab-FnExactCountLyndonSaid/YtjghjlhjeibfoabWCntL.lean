/- The walk of the law FnExactCountLyndon. Conditions: none. -/
import Derived.Test.YtjghjlhjeibfoabLc4
import Derived.Test.YtjghjlhjeibfoabBs1
namespace Go.Proofs.Ytjghjlhjeibfoab
open Go.RowKit
set_option linter.unusedVariables false

set_option maxHeartbeats 1000000 in
theorem walk_FnExactCountLyndon (a0 : Int) (a1 : Int) (w : World) (w0 : (Lit.int .i64 a0).wf = true) (w1 : (Lit.int .i64 a1).wf = true) :
    Calls Try.prog 7 #[.int .i64 a0, .int .i64 a1] w fun e w' => e = .returned (.bool true) ∧ Below w.heap.size w w' := by
  have B0 : Below w.heap.size w w := Below.refl _ _
  go_enter Try.func7, Try.ntmps7
  go_wp2_with fail
  refine (law_spec_CountLyndon _ _ _ w0 w1).mono ?_
  rintro e W1 ⟨rfl, hb⟩
  have B1 := Below_chain B0 hb; have S1 := hb.size; clear hb B0
  go_wp2_with fail
  refine (law_impl_CountLyndon _ _ _ w0 w1).mono ?_
  rintro e W2 ⟨rfl, hb⟩
  have B2 := Below_chain B1 hb; have S2 := hb.size; clear hb B1
  have hn1 : ((atK a0 a1 0 (lynC a1.toNat a0.toNat)) != (atK a0 a1 0 (lynC a1.toNat a0.toNat))) = false := by simp
  have hn2 : ((kindB a0 a1) != (kindB a0 a1)) = false := by simp
  go_wp2
  go_ret
  exact ⟨rfl, B2⟩
end Go.Proofs.Ytjghjlhjeibfoab
