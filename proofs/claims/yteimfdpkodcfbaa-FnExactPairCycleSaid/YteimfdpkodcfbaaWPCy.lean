/- The walk of the law FnExactPairCycle. Conditions: none. -/
import Derived.Test.YteimfdpkodcfbaaPcy
import Derived.Test.YteimfdpkodcfbaaBs1
namespace Go.Proofs.Yteimfdpkodcfbaa
open Go.RowKit
set_option linter.unusedVariables false

set_option maxHeartbeats 1000000 in
theorem walk_FnExactPairCycle (a0 : Int) (w : World) (w0 : (Lit.int .i64 a0).wf = true) :
    Calls Try.prog 9 #[.int .i64 a0] w fun e w' => e = .returned (.bool true) ∧ Below w.heap.size w w' := by
  have B0 : Below w.heap.size w w := Below.refl _ _
  go_enter Try.func9, Try.ntmps9
  go_wp2_with fail
  refine (spec_PairCycle_any _ _ w0).mono ?_
  rintro e W1 ⟨u, rfl, ho, hb⟩
  have B1 := Below_chain B0 hb; have S1 := hb.size; clear hb B0
  have Lv_u := ho.lives; clear ho
  go_wp2_with fail
  refine (impl_PairCycle_any _ _ w0).mono ?_
  rintro e W2 ⟨g, rfl, ho, hb⟩
  have Lt := Lv_u.below hb; clear Lv_u; have Lv_u := Lt; clear Lt
  have B2 := Below_chain B1 hb; have S2 := hb.size; clear hb B1
  have Lv_g := ho.lives; clear ho
  have hn2 : ((pcB a0) != (pcB a0)) = false := by simp
  have hX : (pcR a0).length ≤ 1048576 := bound_PairCycle a0
  have hd1 : decide ((pcR a0) = (pcR a0)) = true := by simp
  go_wp2_with fail
  refine (eqIntS_any _ _ (pcR a0) (pcR a0) _ Lv_g.reads Lv_u.reads).mono ?_
  rintro e W3 ⟨rfl, hb⟩
  have Lt := Lv_u.below hb; clear Lv_u; have Lv_u := Lt; clear Lt
  have Lt := Lv_g.below hb; clear Lv_g; have Lv_g := Lt; clear Lt
  have B3 := Below_chain B2 hb; have S3 := hb.size; clear hb B2
  go_wp2_with fail
  refine (markIntS_any _ (pcR a0) _ _ _ Lv_g.1 (by omega) (by omega) (by omega)).mono ?_
  rintro e W4 ⟨rfl, ho, hg⟩
  have Lt := Lv_u.kept Lv_g hg (by omega); clear Lv_u; have Lv_u := Lt; clear Lt
  have B4 := Below.marked B3 Lv_g hg (by omega); have S4 := hg.size; clear hg B3
  have Lt := Lv_g.marked ho; clear Lv_g ho; have Lv_g := Lt; clear Lt
  go_wp2_with fail
  refine (heldIntS_any _ (marks 1 (pcR a0).length) _ _ Lv_g.reads (by rw [marks_length]) (by omega) (by omega) (by rw [marks_length]; omega)).mono ?_
  rintro e W5 ⟨rfl, he⟩
  subst he
  rw [marks_length]
  go_wp2_with fail
  refine (impl_PairCycle_any _ _ w0).mono ?_
  rintro e W5 ⟨h, rfl, ho, hb⟩
  have Lt := Lv_u.below hb; clear Lv_u; have Lv_u := Lt; clear Lt
  have Lt := Lv_g.below hb; clear Lv_g; have Lv_g := Lt; clear Lt
  have B5 := Below_chain B4 hb; have S5 := hb.size; clear hb B4
  have Lv_h := ho.lives; clear ho
  go_wp2_with fail
  refine (eqIntS_any _ _ (pcR a0) (pcR a0) _ Lv_h.reads Lv_u.reads).mono ?_
  rintro e W6 ⟨rfl, hb⟩
  have Lt := Lv_u.below hb; clear Lv_u; have Lv_u := Lt; clear Lt
  have Lt := Lv_g.below hb; clear Lv_g; have Lv_g := Lt; clear Lt
  have Lt := Lv_h.below hb; clear Lv_h; have Lv_h := Lt; clear Lt
  have B6 := Below_chain B5 hb; have S6 := hb.size; clear hb B5
  go_wp2_with fail
  refine (heldIntS_any _ (marks 1 (pcR a0).length) _ _ Lv_g.reads (by rw [marks_length]) (by omega) (by omega) (by rw [marks_length]; omega)).mono ?_
  rintro e W7 ⟨rfl, he⟩
  subst he
  rw [marks_length]
  go_wp2
  go_ret
  exact ⟨rfl, B6⟩
end Go.Proofs.Yteimfdpkodcfbaa
