/- The walk of the law FnExactMoveSign. Conditions: none. -/
import Derived.Test.YteenmndgejeihaaMvI4
import Derived.Test.YteenmndgejeihaaSits
import Derived.Test.YteenmndgejeihaaMoveL
namespace Go.Proofs.Yteenmndgejeihaa
open Go.RowKit
set_option linter.unusedVariables false
set_option maxRecDepth 4000

set_option maxHeartbeats 1000000 in
theorem walk_FnExactMoveSign (k0 i0 j0 : Int) (w : World) (w0 : (Lit.int .i64 k0).wf = true ∧ (Lit.int .i64 i0).wf = true ∧ (Lit.int .i64 j0).wf = true) :
    Calls Try.prog 8 #[mvA k0 i0 j0] w fun e w' => e = .returned (.bool true) ∧ Below w.heap.size w w' := by
  have HBASE := hid ((Below.refl w.heap.size w).alloc (Nat.le_refl _) (lmObj k0 i0 j0))
  obtain ⟨mb0, mb1, mb2⟩ := lm_box w k0 i0 j0
  have MB0 := hid mb0; have MB1 := hid mb1; have MB2 := hid mb2; clear mb0 mb1 mb2
  have B0 : Below (w.alloc (lmObj k0 i0 j0)).heap.size (w.alloc (lmObj k0 i0 j0)) (w.alloc (lmObj k0 i0 j0)) := Below.refl _ _
  have SB : w.heap.size ≤ (w.alloc (lmObj k0 i0 j0)).heap.size := HBASE.out.size
  go_enter Try.func8, Try.ntmps8
  go_wp2_with fail
  refine (toMove_any k0 i0 j0 _).mono ?_
  rintro e W1 ⟨rfl, hb⟩
  have B1 := Below_chain B0 hb; have S1 := hb.size; clear hb B0
  go_wp2_with fail
  refine (spec_MoveSign_any _ _ _ _).mono ?_
  rintro e W2 ⟨rfl, hb⟩
  have B2 := Below_chain B1 hb; have S2 := hb.size; clear hb B1
  have mc0 := cell_below2 MB0.out B2; have mc1 := cell_below2 MB1.out B2; have mc2 := cell_below2 MB2.out B2
  go_wp2_with fail
  refine (toMove_any k0 i0 j0 _).mono ?_
  rintro e W3 ⟨rfl, hb⟩
  clear mc0 mc1 mc2
  have B3 := Below_chain B2 hb; have S3 := hb.size; clear hb B2
  go_wp2_with fail
  refine (impl_MoveSign_any _ _ _ _).mono ?_
  rintro e W4 ⟨rfl, hb⟩
  have B4 := Below_chain B3 hb; have S4 := hb.size; clear hb B3
  have hn1 : ((msV k0 i0 j0) != (msV k0 i0 j0)) = false := by simp
  have hn2 : ((mvB 12 k0 i0 j0) != (mvB 12 k0 i0 j0)) = false := by simp
  go_wp2_with fail
  go_ret
  exact ⟨rfl, Below_chain HBASE.out B4⟩
end Go.Proofs.Yteenmndgejeihaa
