/- The walk of the law FnExactFromDeltas. Conditions: none. -/
import Derived.Test.YteejdagnlepegaaFromD
import Derived.Test.YteejdagnlepegaaSits
namespace Go.Proofs.Yteejdagnlepegaa
open Go.RowKit
set_option linter.unusedVariables false

set_option maxHeartbeats 1000000 in
theorem walk_FnExactFromDeltas (a0 : Int) (a1 : Int) (a2 : Option Addr) (len2 cap2 : Nat) (z2 : List Int) (w : World) (w0 : (Lit.int .i64 a0).wf = true) (w1 : (Lit.int .i64 a1).wf = true) (w2 : IsRow .i64 w a2 len2 cap2 z2) :
    Calls Try.prog 3 #[.int .i64 a0, .int .i64 a1, .slice a2 len2 cap2] w fun e w' => e = .returned (.bool true) ∧ Below w.heap.size w w' := by
  obtain ⟨hr2, hlen2⟩ := w2.reads
  have wf2 := hid w2.wf
  generalize z2.take len2 = xs2 at hr2 hlen2 wf2
  subst hlen2
  clear w2
  have HR2 := hid hr2
  clear hr2
  by_cases hl2 : xs2.length ≤ 1048576
  case neg =>
    go_enter Try.func3, Try.ntmps3
    go_wp2
    go_ret
    exact ⟨rfl, Below.refl _ _⟩
  case pos =>
    have B0 : Below w.heap.size w w := Below.refl _ _
    go_enter Try.func3, Try.ntmps3
    go_wp2_with fail
    refine (toIntS_any _ xs2 _ (HR2.out.below B0) hl2).mono ?_
    rintro e W1 ⟨rfl, ho, hb⟩
    have B1 := Below_chain B0 hb; have S1 := hb.size; clear hb B0
    have Lv_s2 := ho.lives; clear ho
    go_wp2_with fail
    refine (spec_FromDeltas_any _ _ _ xs2 _ w0 w1 Lv_s2.sits hl2 wf2.out).mono ?_
    rintro e W2 ⟨u, rfl, ho, hb⟩
    have Lt := Lv_s2.below hb; clear Lv_s2; have Lv_s2 := Lt; clear Lt
    have B2 := Below_chain B1 hb; have S2 := hb.size; clear hb B1
    have Lv_u := ho.lives; clear ho
    go_wp2_with fail
    refine (toIntS_any _ xs2 _ (HR2.out.below B2) hl2).mono ?_
    rintro e W3 ⟨rfl, ho, hb⟩
    have Lt := Lv_s2.below hb; clear Lv_s2; have Lv_s2 := Lt; clear Lt
    have Lt := Lv_u.below hb; clear Lv_u; have Lv_u := Lt; clear Lt
    have B3 := Below_chain B2 hb; have S3 := hb.size; clear hb B2
    have Lv_x2 := ho.lives; clear ho
    go_wp2_with fail
    refine (impl_FromDeltas_any _ _ _ xs2 _ w0 w1 Lv_x2.sits hl2 wf2.out).mono ?_
    rintro e W4 ⟨g, rfl, ho, hb⟩
    have Lt := Lv_s2.below hb; clear Lv_s2; have Lv_s2 := Lt; clear Lt
    have Lt := Lv_u.below hb; clear Lv_u; have Lv_u := Lt; clear Lt
    have Lt := Lv_x2.below hb; clear Lv_x2; have Lv_x2 := Lt; clear Lt
    have B4 := Below_chain B3 hb; have S4 := hb.size; clear hb B3
    have Lv_g := ho.lives; clear ho
    have hn2 : (((fdB a0 a1 xs2)) != ((fdB a0 a1 xs2))) = false := by simp
    have hX : ((fdRes a0 a1 xs2)).length ≤ 1048576 := bound_FromDeltas a0 a1 xs2
    have hd1 : decide (((fdRes a0 a1 xs2)) = ((fdRes a0 a1 xs2))) = true := by simp
    have hdx2 : decide (xs2 = xs2) = true := by simp
    go_wp2_with fail
    refine (eqIntS_any _ _ ((fdRes a0 a1 xs2)) ((fdRes a0 a1 xs2)) _ Lv_g.reads Lv_u.reads).mono ?_
    rintro e W5 ⟨rfl, hb⟩
    have Lt := Lv_s2.below hb; clear Lv_s2; have Lv_s2 := Lt; clear Lt
    have Lt := Lv_u.below hb; clear Lv_u; have Lv_u := Lt; clear Lt
    have Lt := Lv_x2.below hb; clear Lv_x2; have Lv_x2 := Lt; clear Lt
    have Lt := Lv_g.below hb; clear Lv_g; have Lv_g := Lt; clear Lt
    have B5 := Below_chain B4 hb; have S5 := hb.size; clear hb B4
    go_wp2_with fail
    refine (toIntS_any _ xs2 _ (HR2.out.below B5) hl2).mono ?_
    rintro e W6 ⟨rfl, ho, hb⟩
    have Lt := Lv_s2.below hb; clear Lv_s2; have Lv_s2 := Lt; clear Lt
    have Lt := Lv_u.below hb; clear Lv_u; have Lv_u := Lt; clear Lt
    have Lt := Lv_x2.below hb; clear Lv_x2; have Lv_x2 := Lt; clear Lt
    have Lt := Lv_g.below hb; clear Lv_g; have Lv_g := Lt; clear Lt
    have B6 := Below_chain B5 hb; have S6 := hb.size; clear hb B5
    have Lv_y2 := ho.lives; clear ho
    go_wp2_with fail
    refine (eqIntS_any _ _ xs2 xs2 _ Lv_x2.reads Lv_y2.reads).mono ?_
    rintro e W7 ⟨rfl, hb⟩
    have Lt := Lv_s2.below hb; clear Lv_s2; have Lv_s2 := Lt; clear Lt
    have Lt := Lv_u.below hb; clear Lv_u; have Lv_u := Lt; clear Lt
    have Lt := Lv_x2.below hb; clear Lv_x2; have Lv_x2 := Lt; clear Lt
    have Lt := Lv_g.below hb; clear Lv_g; have Lv_g := Lt; clear Lt
    have Lt := Lv_y2.below hb; clear Lv_y2; have Lv_y2 := Lt; clear Lt
    have B7 := Below_chain B6 hb; have S7 := hb.size; clear hb B6
    clear Lv_y2
    go_wp2_with fail
    refine (markIntS_any _ xs2 _ _ _ Lv_x2.1 (by omega) (by omega) (by omega)).mono ?_
    rintro e W8 ⟨rfl, ho, hg⟩
    have Lt := Lv_s2.kept Lv_x2 hg (by omega); clear Lv_s2; have Lv_s2 := Lt; clear Lt
    have Lt := Lv_u.kept Lv_x2 hg (by omega); clear Lv_u; have Lv_u := Lt; clear Lt
    have Lt := Lv_g.kept Lv_x2 hg (by omega); clear Lv_g; have Lv_g := Lt; clear Lt
    have B8 := Below.marked B7 Lv_x2 hg (by omega); have S8 := hg.size; clear hg B7
    have Lt := Lv_x2.marked ho; clear Lv_x2 ho; have Lv_x2 := Lt; clear Lt
    go_wp2_with fail
    refine (eqIntS_any _ _ ((fdRes a0 a1 xs2)) ((fdRes a0 a1 xs2)) _ Lv_g.reads Lv_u.reads).mono ?_
    rintro e W9 ⟨rfl, hb⟩
    have Lt := Lv_s2.below hb; clear Lv_s2; have Lv_s2 := Lt; clear Lt
    have Lt := Lv_u.below hb; clear Lv_u; have Lv_u := Lt; clear Lt
    have Lt := Lv_x2.below hb; clear Lv_x2; have Lv_x2 := Lt; clear Lt
    have Lt := Lv_g.below hb; clear Lv_g; have Lv_g := Lt; clear Lt
    have B9 := Below_chain B8 hb; have S9 := hb.size; clear hb B8
    go_wp2_with fail
    refine (markIntS_any _ ((fdRes a0 a1 xs2)) _ _ _ Lv_g.1 (by omega) (by omega) (by omega)).mono ?_
    rintro e W10 ⟨rfl, ho, hg⟩
    have Lt := Lv_s2.kept Lv_g hg (by omega); clear Lv_s2; have Lv_s2 := Lt; clear Lt
    have Lt := Lv_u.kept Lv_g hg (by omega); clear Lv_u; have Lv_u := Lt; clear Lt
    have Lt := Lv_x2.kept Lv_g hg (by omega); clear Lv_x2; have Lv_x2 := Lt; clear Lt
    have B10 := Below.marked B9 Lv_g hg (by omega); have S10 := hg.size; clear hg B9
    have Lt := Lv_g.marked ho; clear Lv_g ho; have Lv_g := Lt; clear Lt
    go_wp2_with fail
    refine (heldIntS_any _ (marks 1 ((fdRes a0 a1 xs2)).length) _ _ Lv_g.reads (by rw [marks_length]) (by omega) (by omega) (by rw [marks_length]; omega)).mono ?_
    rintro e W11 ⟨rfl, he⟩
    subst he
    rw [marks_length]
    go_wp2_with fail
    refine (toIntS_any _ xs2 _ (HR2.out.below B10) hl2).mono ?_
    rintro e W11 ⟨rfl, ho, hb⟩
    have Lt := Lv_s2.below hb; clear Lv_s2; have Lv_s2 := Lt; clear Lt
    have Lt := Lv_u.below hb; clear Lv_u; have Lv_u := Lt; clear Lt
    have Lt := Lv_x2.below hb; clear Lv_x2; have Lv_x2 := Lt; clear Lt
    have Lt := Lv_g.below hb; clear Lv_g; have Lv_g := Lt; clear Lt
    have B11 := Below_chain B10 hb; have S11 := hb.size; clear hb B10
    have Lv_t2 := ho.lives; clear ho
    go_wp2_with fail
    refine (impl_FromDeltas_any _ _ _ xs2 _ w0 w1 Lv_t2.sits hl2 wf2.out).mono ?_
    rintro e W12 ⟨h, rfl, ho, hb⟩
    have Lt := Lv_s2.below hb; clear Lv_s2; have Lv_s2 := Lt; clear Lt
    have Lt := Lv_u.below hb; clear Lv_u; have Lv_u := Lt; clear Lt
    have Lt := Lv_x2.below hb; clear Lv_x2; have Lv_x2 := Lt; clear Lt
    have Lt := Lv_g.below hb; clear Lv_g; have Lv_g := Lt; clear Lt
    have Lt := Lv_t2.below hb; clear Lv_t2; have Lv_t2 := Lt; clear Lt
    have B12 := Below_chain B11 hb; have S12 := hb.size; clear hb B11
    have Lv_h := ho.lives; clear ho
    go_wp2_with fail
    refine (eqIntS_any _ _ ((fdRes a0 a1 xs2)) ((fdRes a0 a1 xs2)) _ Lv_h.reads Lv_u.reads).mono ?_
    rintro e W13 ⟨rfl, hb⟩
    have Lt := Lv_s2.below hb; clear Lv_s2; have Lv_s2 := Lt; clear Lt
    have Lt := Lv_u.below hb; clear Lv_u; have Lv_u := Lt; clear Lt
    have Lt := Lv_x2.below hb; clear Lv_x2; have Lv_x2 := Lt; clear Lt
    have Lt := Lv_g.below hb; clear Lv_g; have Lv_g := Lt; clear Lt
    have Lt := Lv_t2.below hb; clear Lv_t2; have Lv_t2 := Lt; clear Lt
    have Lt := Lv_h.below hb; clear Lv_h; have Lv_h := Lt; clear Lt
    have B13 := Below_chain B12 hb; have S13 := hb.size; clear hb B12
    go_wp2_with fail
    refine (heldIntS_any _ (marks 1 ((fdRes a0 a1 xs2)).length) _ _ Lv_g.reads (by rw [marks_length]) (by omega) (by omega) (by rw [marks_length]; omega)).mono ?_
    rintro e W14 ⟨rfl, he⟩
    subst he
    rw [marks_length]
    go_wp2
    go_ret
    exact ⟨rfl, B13⟩
end Go.Proofs.Yteejdagnlepegaa
