/- The walk of the law FnExactSuperBound. Conditions: none. -/
import Derived.Test.YtlkhkecnghpokabSu1
import Derived.Test.YtlkhkecnghpokabBs1
namespace Go.Proofs.Ytlkhkecnghpokab
open Go.RowKit
set_option linter.unusedVariables false

set_option maxHeartbeats 1000000 in
theorem walk_FnExactSuperBound (a0 : Int) (w : World) (w0 : (Lit.int .i64 a0).wf = true) :
    Calls Try.prog 8 #[.int .i64 a0] w fun e w' => e = .returned (.bool true) ∧ Below w.heap.size w w' := by
  have B0 : Below w.heap.size w w := Below.refl _ _
  go_enter Try.func8, Try.ntmps8
  go_wp2_with fail
  refine (spec_SuperBound_any _ _ w0).mono ?_
  rintro e W1 ⟨rfl, hb⟩
  have B1 := Below_chain B0 hb; have S1 := hb.size; clear hb B0
  go_wp2_with fail
  refine (impl_SuperBound_any _ _ w0).mono ?_
  rintro e W2 ⟨rfl, hb⟩
  have B2 := Below_chain B1 hb; have S2 := hb.size; clear hb B1
  have hn1 : ((sbdR a0) != (sbdR a0)) = false := by simp
  have hn2 : ((suNB a0) != (suNB a0)) = false := by simp
  go_wp2
  go_ret
  exact ⟨rfl, B2⟩
end Go.Proofs.Ytlkhkecnghpokab
