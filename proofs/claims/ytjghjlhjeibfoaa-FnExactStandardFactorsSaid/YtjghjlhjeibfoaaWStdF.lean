/- The walk of the law FnExactStandardFactors. Conditions: none. -/
import Derived.Test.YtjghjlhjeibfoaaLy8
import Derived.Test.YtjghjlhjeibfoaaBs1
namespace Go.Proofs.Ytjghjlhjeibfoaa
open Go.RowKit
set_option linter.unusedVariables false

set_option maxHeartbeats 1000000 in
theorem walk_FnExactStandardFactors (a0 : Option Addr) (len0 cap0 : Nat) (z0 : List Int) (w : World) (w0 : IsRow .i64 w a0 len0 cap0 z0) :
    Calls Try.prog 11 #[.slice a0 len0 cap0] w fun e w' => e = .returned (.bool true) ∧ Below w.heap.size w w' := by
  obtain ⟨hr0, hlen0⟩ := w0.reads
  have wf0 := hid w0.wf
  generalize z0.take len0 = xs0 at hr0 hlen0 wf0
  subst hlen0
  clear w0
  have HR0 := hid hr0
  clear hr0
  by_cases hl0 : xs0.length ≤ 1048576
  case neg =>
    go_enter Try.func11, Try.ntmps11
    go_wp2
    go_ret
    exact ⟨rfl, Below.refl _ _⟩
  case pos =>
    have B0 : Below w.heap.size w w := Below.refl _ _
    go_enter Try.func11, Try.ntmps11
    go_wp2_with fail
    refine (toIntS_any _ xs0 _ (HR0.out.below B0) hl0).mono ?_
    rintro e W1 ⟨rfl, ho, hb⟩
    have B1 := Below_chain B0 hb; have S1 := hb.size; clear hb B0
    have Lv_s0 := ho.lives; clear ho
    go_wp2_with fail
    refine (law_spec_StandardFactors _ xs0 _ Lv_s0.sits hl0 wf0.out).mono ?_
    rintro e W2 ⟨u1, u2, Mu, rfl, ho, ho2, hM1u, hM2u, hb⟩
    have Lt := Lv_s0.below hb; clear Lv_s0; have Lv_s0 := Lt; clear Lt
    have B2 := Below_chain B1 hb; have S2 := hb.size; clear hb B1
    have Lv_u1 := ho; clear ho; have Lv_u2 := ho2.lives; clear ho2
    go_wp2_with fail
    refine (toIntS_any _ xs0 _ (HR0.out.below B2) hl0).mono ?_
    rintro e W3 ⟨rfl, ho, hb⟩
    have Lt := Lv_s0.below hb; clear Lv_s0; have Lv_s0 := Lt; clear Lt
    have Lt := Lv_u1.below hb; clear Lv_u1; have Lv_u1 := Lt; clear Lt
    have Lt := Lv_u2.below hb; clear Lv_u2; have Lv_u2 := Lt; clear Lt
    have B3 := Below_chain B2 hb; have S3 := hb.size; clear hb B2
    have Lv_x0 := ho.lives; clear ho
    go_wp2_with fail
    refine (law_impl_StandardFactors _ xs0 _ Lv_x0.sits hl0 wf0.out).mono ?_
    rintro e W4 ⟨g1, g2, Mg, rfl, ho, ho2, hM1g, hM2g, hb⟩
    have Lt := Lv_s0.below hb; clear Lv_s0; have Lv_s0 := Lt; clear Lt
    have Lt := Lv_u1.below hb; clear Lv_u1; have Lv_u1 := Lt; clear Lt
    have Lt := Lv_u2.below hb; clear Lv_u2; have Lv_u2 := Lt; clear Lt
    have Lt := Lv_x0.below hb; clear Lv_x0; have Lv_x0 := Lt; clear Lt
    have B4 := Below_chain B3 hb; have S4 := hb.size; clear hb B3
    have Lv_g1 := ho; clear ho; have Lv_g2 := ho2.lives; clear ho2
    have hn2 : ((sfB xs0) != (sfB xs0)) = false := by simp
    have hX1 : (sf1 xs0).length ≤ 1048576 := bound_StandardFactors1 xs0
    have hX2 : (sf2 xs0).length ≤ 1048576 := bound_StandardFactors2 xs0
    have hd1 : decide ((sf1 xs0) = (sf1 xs0)) = true := by simp
    have hd2 : decide ((sf2 xs0) = (sf2 xs0)) = true := by simp
    have hdx0 : decide (xs0 = xs0) = true := by simp
    go_wp2_with fail
    refine (eqIntS_any _ _ (sf1 xs0) (sf1 xs0) _ Lv_g1.reads Lv_u1.reads).mono ?_
    rintro e W5 ⟨rfl, hb⟩
    have Lt := Lv_s0.below hb; clear Lv_s0; have Lv_s0 := Lt; clear Lt
    have Lt := Lv_u1.below hb; clear Lv_u1; have Lv_u1 := Lt; clear Lt
    have Lt := Lv_u2.below hb; clear Lv_u2; have Lv_u2 := Lt; clear Lt
    have Lt := Lv_x0.below hb; clear Lv_x0; have Lv_x0 := Lt; clear Lt
    have Lt := Lv_g1.below hb; clear Lv_g1; have Lv_g1 := Lt; clear Lt
    have Lt := Lv_g2.below hb; clear Lv_g2; have Lv_g2 := Lt; clear Lt
    have B5 := Below_chain B4 hb; have S5 := hb.size; clear hb B4
    go_wp2_with fail
    refine (eqIntS_any _ _ (sf2 xs0) (sf2 xs0) _ Lv_g2.reads Lv_u2.reads).mono ?_
    rintro e W6 ⟨rfl, hb⟩
    have Lt := Lv_s0.below hb; clear Lv_s0; have Lv_s0 := Lt; clear Lt
    have Lt := Lv_u1.below hb; clear Lv_u1; have Lv_u1 := Lt; clear Lt
    have Lt := Lv_u2.below hb; clear Lv_u2; have Lv_u2 := Lt; clear Lt
    have Lt := Lv_x0.below hb; clear Lv_x0; have Lv_x0 := Lt; clear Lt
    have Lt := Lv_g1.below hb; clear Lv_g1; have Lv_g1 := Lt; clear Lt
    have Lt := Lv_g2.below hb; clear Lv_g2; have Lv_g2 := Lt; clear Lt
    have B6 := Below_chain B5 hb; have S6 := hb.size; clear hb B5
    go_wp2_with fail
    refine (toIntS_any _ xs0 _ (HR0.out.below B6) hl0).mono ?_
    rintro e W7 ⟨rfl, ho, hb⟩
    have Lt := Lv_s0.below hb; clear Lv_s0; have Lv_s0 := Lt; clear Lt
    have Lt := Lv_u1.below hb; clear Lv_u1; have Lv_u1 := Lt; clear Lt
    have Lt := Lv_u2.below hb; clear Lv_u2; have Lv_u2 := Lt; clear Lt
    have Lt := Lv_x0.below hb; clear Lv_x0; have Lv_x0 := Lt; clear Lt
    have Lt := Lv_g1.below hb; clear Lv_g1; have Lv_g1 := Lt; clear Lt
    have Lt := Lv_g2.below hb; clear Lv_g2; have Lv_g2 := Lt; clear Lt
    have B7 := Below_chain B6 hb; have S7 := hb.size; clear hb B6
    have Lv_y0 := ho.lives; clear ho
    go_wp2_with fail
    refine (eqIntS_any _ _ xs0 xs0 _ Lv_x0.reads Lv_y0.reads).mono ?_
    rintro e W8 ⟨rfl, hb⟩
    have Lt := Lv_s0.below hb; clear Lv_s0; have Lv_s0 := Lt; clear Lt
    have Lt := Lv_u1.below hb; clear Lv_u1; have Lv_u1 := Lt; clear Lt
    have Lt := Lv_u2.below hb; clear Lv_u2; have Lv_u2 := Lt; clear Lt
    have Lt := Lv_x0.below hb; clear Lv_x0; have Lv_x0 := Lt; clear Lt
    have Lt := Lv_g1.below hb; clear Lv_g1; have Lv_g1 := Lt; clear Lt
    have Lt := Lv_g2.below hb; clear Lv_g2; have Lv_g2 := Lt; clear Lt
    have Lt := Lv_y0.below hb; clear Lv_y0; have Lv_y0 := Lt; clear Lt
    have B8 := Below_chain B7 hb; have S8 := hb.size; clear hb B7
    clear Lv_y0
    go_wp2_with fail
    refine (markIntS_any _ xs0 _ _ _ Lv_x0.1 (by omega) (by omega) (by omega)).mono ?_
    rintro e W9 ⟨rfl, ho, hg⟩
    have Lt := Lv_s0.kept Lv_x0 hg (by omega); clear Lv_s0; have Lv_s0 := Lt; clear Lt
    have Lt := Lv_u1.kept Lv_x0 hg (by omega); clear Lv_u1; have Lv_u1 := Lt; clear Lt
    have Lt := Lv_u2.kept Lv_x0 hg (by omega); clear Lv_u2; have Lv_u2 := Lt; clear Lt
    have Lt := Lv_g1.kept Lv_x0 hg (by omega); clear Lv_g1; have Lv_g1 := Lt; clear Lt
    have Lt := Lv_g2.kept Lv_x0 hg (by omega); clear Lv_g2; have Lv_g2 := Lt; clear Lt
    have B9 := Below.marked B8 Lv_x0 hg (by omega); have S9 := hg.size; clear hg B8
    have Lt := Lv_x0.marked ho; clear Lv_x0 ho; have Lv_x0 := Lt; clear Lt
    go_wp2_with fail
    refine (eqIntS_any _ _ (sf1 xs0) (sf1 xs0) _ Lv_g1.reads Lv_u1.reads).mono ?_
    rintro e W10 ⟨rfl, hb⟩
    have Lt := Lv_s0.below hb; clear Lv_s0; have Lv_s0 := Lt; clear Lt
    have Lt := Lv_u1.below hb; clear Lv_u1; have Lv_u1 := Lt; clear Lt
    have Lt := Lv_u2.below hb; clear Lv_u2; have Lv_u2 := Lt; clear Lt
    have Lt := Lv_x0.below hb; clear Lv_x0; have Lv_x0 := Lt; clear Lt
    have Lt := Lv_g1.below hb; clear Lv_g1; have Lv_g1 := Lt; clear Lt
    have Lt := Lv_g2.below hb; clear Lv_g2; have Lv_g2 := Lt; clear Lt
    have B10 := Below_chain B9 hb; have S10 := hb.size; clear hb B9
    go_wp2_with fail
    refine (eqIntS_any _ _ (sf2 xs0) (sf2 xs0) _ Lv_g2.reads Lv_u2.reads).mono ?_
    rintro e W11 ⟨rfl, hb⟩
    have Lt := Lv_s0.below hb; clear Lv_s0; have Lv_s0 := Lt; clear Lt
    have Lt := Lv_u1.below hb; clear Lv_u1; have Lv_u1 := Lt; clear Lt
    have Lt := Lv_u2.below hb; clear Lv_u2; have Lv_u2 := Lt; clear Lt
    have Lt := Lv_x0.below hb; clear Lv_x0; have Lv_x0 := Lt; clear Lt
    have Lt := Lv_g1.below hb; clear Lv_g1; have Lv_g1 := Lt; clear Lt
    have Lt := Lv_g2.below hb; clear Lv_g2; have Lv_g2 := Lt; clear Lt
    have B11 := Below_chain B10 hb; have S11 := hb.size; clear hb B10
    go_wp2_with fail
    refine (markIntS_any _ (sf1 xs0) _ _ _ Lv_g1.1 (by omega) (by omega) (by omega)).mono ?_
    rintro e W12 ⟨rfl, ho, hg⟩
    have Lt := Lv_s0.kept Lv_g1 hg (by omega); clear Lv_s0; have Lv_s0 := Lt; clear Lt
    have Lt := Lv_u1.kept Lv_g1 hg (by omega); clear Lv_u1; have Lv_u1 := Lt; clear Lt
    have Lt := Lv_u2.kept Lv_g1 hg (by omega); clear Lv_u2; have Lv_u2 := Lt; clear Lt
    have Lt := Lv_x0.kept Lv_g1 hg (by omega); clear Lv_x0; have Lv_x0 := Lt; clear Lt
    have Lt := Lv_g2.kept Lv_g1 hg (by omega); clear Lv_g2; have Lv_g2 := Lt; clear Lt
    have B12 := Below.marked B11 Lv_g1 hg (by omega); have S12 := hg.size; clear hg B11
    have Lt := Lv_g1.marked ho; clear Lv_g1 ho; have Lv_g1 := Lt; clear Lt
    go_wp2_with fail
    refine (markIntS_any _ (sf2 xs0) _ _ _ Lv_g2.1 (by omega) (by omega) (by omega)).mono ?_
    rintro e W13 ⟨rfl, ho, hg⟩
    have Lt := Lv_s0.kept Lv_g2 hg (by omega); clear Lv_s0; have Lv_s0 := Lt; clear Lt
    have Lt := Lv_u1.kept Lv_g2 hg (by omega); clear Lv_u1; have Lv_u1 := Lt; clear Lt
    have Lt := Lv_u2.kept Lv_g2 hg (by omega); clear Lv_u2; have Lv_u2 := Lt; clear Lt
    have Lt := Lv_x0.kept Lv_g2 hg (by omega); clear Lv_x0; have Lv_x0 := Lt; clear Lt
    have Lt := Lv_g1.kept Lv_g2 hg (by omega); clear Lv_g1; have Lv_g1 := Lt; clear Lt
    have B13 := Below.marked B12 Lv_g2 hg (by omega); have S13 := hg.size; clear hg B12
    have Lt := Lv_g2.marked ho; clear Lv_g2 ho; have Lv_g2 := Lt; clear Lt
    go_wp2_with fail
    refine (heldIntS_any _ (marks 1 (sf1 xs0).length) _ _ Lv_g1.reads (by rw [marks_length]) (by omega) (by omega) (by rw [marks_length]; omega)).mono ?_
    rintro e W14 ⟨rfl, he⟩
    subst he
    rw [marks_length]
    go_wp2_with fail
    refine (heldIntS_any _ (marks (1 + ((sf1 xs0).length : Int)) (sf2 xs0).length) _ _ Lv_g2.reads (by rw [marks_length]) (by omega) (by omega) (by rw [marks_length]; omega)).mono ?_
    rintro e W14 ⟨rfl, he⟩
    subst he
    rw [marks_length]
    go_wp2_with fail
    refine (toIntS_any _ xs0 _ (HR0.out.below B13) hl0).mono ?_
    rintro e W14 ⟨rfl, ho, hb⟩
    have Lt := Lv_s0.below hb; clear Lv_s0; have Lv_s0 := Lt; clear Lt
    have Lt := Lv_u1.below hb; clear Lv_u1; have Lv_u1 := Lt; clear Lt
    have Lt := Lv_u2.below hb; clear Lv_u2; have Lv_u2 := Lt; clear Lt
    have Lt := Lv_x0.below hb; clear Lv_x0; have Lv_x0 := Lt; clear Lt
    have Lt := Lv_g1.below hb; clear Lv_g1; have Lv_g1 := Lt; clear Lt
    have Lt := Lv_g2.below hb; clear Lv_g2; have Lv_g2 := Lt; clear Lt
    have B14 := Below_chain B13 hb; have S14 := hb.size; clear hb B13
    have Lv_t0 := ho.lives; clear ho
    go_wp2_with fail
    refine (law_impl_StandardFactors _ xs0 _ Lv_t0.sits hl0 wf0.out).mono ?_
    rintro e W15 ⟨h1, h2, Mh, rfl, ho, ho2, hM1h, hM2h, hb⟩
    have Lt := Lv_s0.below hb; clear Lv_s0; have Lv_s0 := Lt; clear Lt
    have Lt := Lv_u1.below hb; clear Lv_u1; have Lv_u1 := Lt; clear Lt
    have Lt := Lv_u2.below hb; clear Lv_u2; have Lv_u2 := Lt; clear Lt
    have Lt := Lv_x0.below hb; clear Lv_x0; have Lv_x0 := Lt; clear Lt
    have Lt := Lv_g1.below hb; clear Lv_g1; have Lv_g1 := Lt; clear Lt
    have Lt := Lv_g2.below hb; clear Lv_g2; have Lv_g2 := Lt; clear Lt
    have Lt := Lv_t0.below hb; clear Lv_t0; have Lv_t0 := Lt; clear Lt
    have B15 := Below_chain B14 hb; have S15 := hb.size; clear hb B14
    have Lv_h1 := ho; clear ho; have Lv_h2 := ho2.lives; clear ho2
    go_wp2_with fail
    refine (eqIntS_any _ _ (sf1 xs0) (sf1 xs0) _ Lv_h1.reads Lv_u1.reads).mono ?_
    rintro e W16 ⟨rfl, hb⟩
    have Lt := Lv_s0.below hb; clear Lv_s0; have Lv_s0 := Lt; clear Lt
    have Lt := Lv_u1.below hb; clear Lv_u1; have Lv_u1 := Lt; clear Lt
    have Lt := Lv_u2.below hb; clear Lv_u2; have Lv_u2 := Lt; clear Lt
    have Lt := Lv_x0.below hb; clear Lv_x0; have Lv_x0 := Lt; clear Lt
    have Lt := Lv_g1.below hb; clear Lv_g1; have Lv_g1 := Lt; clear Lt
    have Lt := Lv_g2.below hb; clear Lv_g2; have Lv_g2 := Lt; clear Lt
    have Lt := Lv_t0.below hb; clear Lv_t0; have Lv_t0 := Lt; clear Lt
    have Lt := Lv_h1.below hb; clear Lv_h1; have Lv_h1 := Lt; clear Lt
    have Lt := Lv_h2.below hb; clear Lv_h2; have Lv_h2 := Lt; clear Lt
    have B16 := Below_chain B15 hb; have S16 := hb.size; clear hb B15
    go_wp2_with fail
    refine (eqIntS_any _ _ (sf2 xs0) (sf2 xs0) _ Lv_h2.reads Lv_u2.reads).mono ?_
    rintro e W17 ⟨rfl, hb⟩
    have Lt := Lv_s0.below hb; clear Lv_s0; have Lv_s0 := Lt; clear Lt
    have Lt := Lv_u1.below hb; clear Lv_u1; have Lv_u1 := Lt; clear Lt
    have Lt := Lv_u2.below hb; clear Lv_u2; have Lv_u2 := Lt; clear Lt
    have Lt := Lv_x0.below hb; clear Lv_x0; have Lv_x0 := Lt; clear Lt
    have Lt := Lv_g1.below hb; clear Lv_g1; have Lv_g1 := Lt; clear Lt
    have Lt := Lv_g2.below hb; clear Lv_g2; have Lv_g2 := Lt; clear Lt
    have Lt := Lv_t0.below hb; clear Lv_t0; have Lv_t0 := Lt; clear Lt
    have Lt := Lv_h1.below hb; clear Lv_h1; have Lv_h1 := Lt; clear Lt
    have Lt := Lv_h2.below hb; clear Lv_h2; have Lv_h2 := Lt; clear Lt
    have B17 := Below_chain B16 hb; have S17 := hb.size; clear hb B16
    go_wp2_with fail
    refine (heldIntS_any _ (marks 1 (sf1 xs0).length) _ _ Lv_g1.reads (by rw [marks_length]) (by omega) (by omega) (by rw [marks_length]; omega)).mono ?_
    rintro e W18 ⟨rfl, he⟩
    subst he
    rw [marks_length]
    go_wp2_with fail
    refine (heldIntS_any _ (marks (1 + ((sf1 xs0).length : Int)) (sf2 xs0).length) _ _ Lv_g2.reads (by rw [marks_length]) (by omega) (by omega) (by rw [marks_length]; omega)).mono ?_
    rintro e W18 ⟨rfl, he⟩
    subst he
    rw [marks_length]
    go_wp2
    go_ret
    exact ⟨rfl, B17⟩
end Go.Proofs.Ytjghjlhjeibfoaa
