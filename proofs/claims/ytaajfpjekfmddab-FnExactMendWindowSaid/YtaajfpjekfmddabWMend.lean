/- The walk of the law FnExactMendWindow. Conditions: none. -/
import Derived.Test.YtaajfpjekfmddabBr5
import Derived.Test.YtaajfpjekfmddabBs1
namespace Go.Proofs.Ytaajfpjekfmddab
open Go.RowKit
set_option linter.unusedVariables false

set_option maxHeartbeats 1000000 in
theorem walk_FnExactMendWindow (a0 : Option Addr) (len0 cap0 : Nat) (z0 : List Int) (a1 : Option Addr) (len1 cap1 : Nat) (z1 : List Int) (w : World) (w0 : IsRow .i64 w a0 len0 cap0 z0) (w1 : IsRow .i64 w a1 len1 cap1 z1) :
    Calls Try.prog 12 #[.slice a0 len0 cap0, .slice a1 len1 cap1] w fun e w' => e = .returned (.bool true) ∧ Below w.heap.size w w' := by
  obtain ⟨hr0, hlen0⟩ := w0.reads
  have wf0 := hid w0.wf
  generalize z0.take len0 = xs0 at hr0 hlen0 wf0
  subst hlen0
  clear w0
  have HR0 := hid hr0
  clear hr0
  obtain ⟨hr1, hlen1⟩ := w1.reads
  have wf1 := hid w1.wf
  generalize z1.take len1 = xs1 at hr1 hlen1 wf1
  subst hlen1
  clear w1
  have HR1 := hid hr1
  clear hr1
  by_cases hl0 : xs0.length ≤ 1048576
  case neg =>
    go_enter Try.func12, Try.ntmps12
    go_wp2
    go_ret
    exact ⟨rfl, Below.refl _ _⟩
  case pos =>
    by_cases hl1 : xs1.length ≤ 1048576
    case neg =>
      go_enter Try.func12, Try.ntmps12
      go_wp2
      go_ret
      exact ⟨rfl, Below.refl _ _⟩
    case pos =>
      have B0 : Below w.heap.size w w := Below.refl _ _
      go_enter Try.func12, Try.ntmps12
      go_wp2_with fail
      refine (toIntS_any _ xs0 _ (HR0.out.below B0) hl0).mono ?_
      rintro e W1 ⟨rfl, ho, hb⟩
      have B1 := Below_chain B0 hb; have S1 := hb.size; clear hb B0
      have Lv_s0 := ho.lives; clear ho
      go_wp2_with fail
      refine (toIntS_any _ xs1 _ (HR1.out.below B1) hl1).mono ?_
      rintro e W2 ⟨rfl, ho, hb⟩
      have Lt := Lv_s0.below hb; clear Lv_s0; have Lv_s0 := Lt; clear Lt
      have B2 := Below_chain B1 hb; have S2 := hb.size; clear hb B1
      have Lv_s1 := ho.lives; clear ho
      go_wp2_with fail
      refine (law_spec_MendWindow _ xs0 _ xs1 _ Lv_s0.sits hl0 wf0.out Lv_s1.sits hl1 wf1.out).mono ?_
      rintro e W3 ⟨u, rfl, ho, hb⟩
      have Lt := Lv_s0.below hb; clear Lv_s0; have Lv_s0 := Lt; clear Lt
      have Lt := Lv_s1.below hb; clear Lv_s1; have Lv_s1 := Lt; clear Lt
      have B3 := Below_chain B2 hb; have S3 := hb.size; clear hb B2
      have Lv_u := ho.lives; clear ho
      go_wp2_with fail
      refine (toIntS_any _ xs0 _ (HR0.out.below B3) hl0).mono ?_
      rintro e W4 ⟨rfl, ho, hb⟩
      have Lt := Lv_s0.below hb; clear Lv_s0; have Lv_s0 := Lt; clear Lt
      have Lt := Lv_s1.below hb; clear Lv_s1; have Lv_s1 := Lt; clear Lt
      have Lt := Lv_u.below hb; clear Lv_u; have Lv_u := Lt; clear Lt
      have B4 := Below_chain B3 hb; have S4 := hb.size; clear hb B3
      have Lv_x0 := ho.lives; clear ho
      go_wp2_with fail
      refine (toIntS_any _ xs1 _ (HR1.out.below B4) hl1).mono ?_
      rintro e W5 ⟨rfl, ho, hb⟩
      have Lt := Lv_s0.below hb; clear Lv_s0; have Lv_s0 := Lt; clear Lt
      have Lt := Lv_s1.below hb; clear Lv_s1; have Lv_s1 := Lt; clear Lt
      have Lt := Lv_u.below hb; clear Lv_u; have Lv_u := Lt; clear Lt
      have Lt := Lv_x0.below hb; clear Lv_x0; have Lv_x0 := Lt; clear Lt
      have B5 := Below_chain B4 hb; have S5 := hb.size; clear hb B4
      have Lv_x1 := ho.lives; clear ho
      go_wp2_with fail
      refine (law_impl_MendWindow _ xs0 _ xs1 _ Lv_x0.sits hl0 wf0.out Lv_x1.sits hl1 wf1.out).mono ?_
      rintro e W6 ⟨g, rfl, ho, hb⟩
      have Lt := Lv_s0.below hb; clear Lv_s0; have Lv_s0 := Lt; clear Lt
      have Lt := Lv_s1.below hb; clear Lv_s1; have Lv_s1 := Lt; clear Lt
      have Lt := Lv_u.below hb; clear Lv_u; have Lv_u := Lt; clear Lt
      have Lt := Lv_x0.below hb; clear Lv_x0; have Lv_x0 := Lt; clear Lt
      have Lt := Lv_x1.below hb; clear Lv_x1; have Lv_x1 := Lt; clear Lt
      have B6 := Below_chain B5 hb; have S6 := hb.size; clear hb B5
      have Lv_g := ho.lives; clear ho
      have hn2 : ((mdB xs0 xs1) != (mdB xs0 xs1)) = false := by simp
      have hn3 : ((mdP xs0 xs1) != (mdP xs0 xs1)) = false := by simp
      have hX : (mdL xs0 xs1).length ≤ 1048576 := bound_MendWindow xs0 xs1
      have hd1 : decide ((mdL xs0 xs1) = (mdL xs0 xs1)) = true := by simp
      have hdx0 : decide (xs0 = xs0) = true := by simp
      have hdx1 : decide (xs1 = xs1) = true := by simp
      go_wp2_with fail
      refine (eqIntS_any _ _ (mdL xs0 xs1) (mdL xs0 xs1) _ Lv_g.reads Lv_u.reads).mono ?_
      rintro e W7 ⟨rfl, hb⟩
      have Lt := Lv_s0.below hb; clear Lv_s0; have Lv_s0 := Lt; clear Lt
      have Lt := Lv_s1.below hb; clear Lv_s1; have Lv_s1 := Lt; clear Lt
      have Lt := Lv_u.below hb; clear Lv_u; have Lv_u := Lt; clear Lt
      have Lt := Lv_x0.below hb; clear Lv_x0; have Lv_x0 := Lt; clear Lt
      have Lt := Lv_x1.below hb; clear Lv_x1; have Lv_x1 := Lt; clear Lt
      have Lt := Lv_g.below hb; clear Lv_g; have Lv_g := Lt; clear Lt
      have B7 := Below_chain B6 hb; have S7 := hb.size; clear hb B6
      go_wp2_with fail
      refine (toIntS_any _ xs0 _ (HR0.out.below B7) hl0).mono ?_
      rintro e W8 ⟨rfl, ho, hb⟩
      have Lt := Lv_s0.below hb; clear Lv_s0; have Lv_s0 := Lt; clear Lt
      have Lt := Lv_s1.below hb; clear Lv_s1; have Lv_s1 := Lt; clear Lt
      have Lt := Lv_u.below hb; clear Lv_u; have Lv_u := Lt; clear Lt
      have Lt := Lv_x0.below hb; clear Lv_x0; have Lv_x0 := Lt; clear Lt
      have Lt := Lv_x1.below hb; clear Lv_x1; have Lv_x1 := Lt; clear Lt
      have Lt := Lv_g.below hb; clear Lv_g; have Lv_g := Lt; clear Lt
      have B8 := Below_chain B7 hb; have S8 := hb.size; clear hb B7
      have Lv_y0 := ho.lives; clear ho
      go_wp2_with fail
      refine (eqIntS_any _ _ xs0 xs0 _ Lv_x0.reads Lv_y0.reads).mono ?_
      rintro e W9 ⟨rfl, hb⟩
      have Lt := Lv_s0.below hb; clear Lv_s0; have Lv_s0 := Lt; clear Lt
      have Lt := Lv_s1.below hb; clear Lv_s1; have Lv_s1 := Lt; clear Lt
      have Lt := Lv_u.below hb; clear Lv_u; have Lv_u := Lt; clear Lt
      have Lt := Lv_x0.below hb; clear Lv_x0; have Lv_x0 := Lt; clear Lt
      have Lt := Lv_x1.below hb; clear Lv_x1; have Lv_x1 := Lt; clear Lt
      have Lt := Lv_g.below hb; clear Lv_g; have Lv_g := Lt; clear Lt
      have Lt := Lv_y0.below hb; clear Lv_y0; have Lv_y0 := Lt; clear Lt
      have B9 := Below_chain B8 hb; have S9 := hb.size; clear hb B8
      clear Lv_y0
      go_wp2_with fail
      refine (toIntS_any _ xs1 _ (HR1.out.below B9) hl1).mono ?_
      rintro e W10 ⟨rfl, ho, hb⟩
      have Lt := Lv_s0.below hb; clear Lv_s0; have Lv_s0 := Lt; clear Lt
      have Lt := Lv_s1.below hb; clear Lv_s1; have Lv_s1 := Lt; clear Lt
      have Lt := Lv_u.below hb; clear Lv_u; have Lv_u := Lt; clear Lt
      have Lt := Lv_x0.below hb; clear Lv_x0; have Lv_x0 := Lt; clear Lt
      have Lt := Lv_x1.below hb; clear Lv_x1; have Lv_x1 := Lt; clear Lt
      have Lt := Lv_g.below hb; clear Lv_g; have Lv_g := Lt; clear Lt
      have B10 := Below_chain B9 hb; have S10 := hb.size; clear hb B9
      have Lv_y1 := ho.lives; clear ho
      go_wp2_with fail
      refine (eqIntS_any _ _ xs1 xs1 _ Lv_x1.reads Lv_y1.reads).mono ?_
      rintro e W11 ⟨rfl, hb⟩
      have Lt := Lv_s0.below hb; clear Lv_s0; have Lv_s0 := Lt; clear Lt
      have Lt := Lv_s1.below hb; clear Lv_s1; have Lv_s1 := Lt; clear Lt
      have Lt := Lv_u.below hb; clear Lv_u; have Lv_u := Lt; clear Lt
      have Lt := Lv_x0.below hb; clear Lv_x0; have Lv_x0 := Lt; clear Lt
      have Lt := Lv_x1.below hb; clear Lv_x1; have Lv_x1 := Lt; clear Lt
      have Lt := Lv_g.below hb; clear Lv_g; have Lv_g := Lt; clear Lt
      have Lt := Lv_y1.below hb; clear Lv_y1; have Lv_y1 := Lt; clear Lt
      have B11 := Below_chain B10 hb; have S11 := hb.size; clear hb B10
      clear Lv_y1
      go_wp2_with fail
      refine (markIntS_any _ xs0 _ _ _ Lv_x0.1 (by omega) (by omega) (by omega)).mono ?_
      rintro e W12 ⟨rfl, ho, hg⟩
      have Lt := Lv_s0.kept Lv_x0 hg (by omega); clear Lv_s0; have Lv_s0 := Lt; clear Lt
      have Lt := Lv_s1.kept Lv_x0 hg (by omega); clear Lv_s1; have Lv_s1 := Lt; clear Lt
      have Lt := Lv_u.kept Lv_x0 hg (by omega); clear Lv_u; have Lv_u := Lt; clear Lt
      have Lt := Lv_x1.kept Lv_x0 hg (by omega); clear Lv_x1; have Lv_x1 := Lt; clear Lt
      have Lt := Lv_g.kept Lv_x0 hg (by omega); clear Lv_g; have Lv_g := Lt; clear Lt
      have B12 := Below.marked B11 Lv_x0 hg (by omega); have S12 := hg.size; clear hg B11
      have Lt := Lv_x0.marked ho; clear Lv_x0 ho; have Lv_x0 := Lt; clear Lt
      go_wp2_with fail
      refine (markIntS_any _ xs1 _ _ _ Lv_x1.1 (by omega) (by omega) (by omega)).mono ?_
      rintro e W13 ⟨rfl, ho, hg⟩
      have Lt := Lv_s0.kept Lv_x1 hg (by omega); clear Lv_s0; have Lv_s0 := Lt; clear Lt
      have Lt := Lv_s1.kept Lv_x1 hg (by omega); clear Lv_s1; have Lv_s1 := Lt; clear Lt
      have Lt := Lv_u.kept Lv_x1 hg (by omega); clear Lv_u; have Lv_u := Lt; clear Lt
      have Lt := Lv_x0.kept Lv_x1 hg (by omega); clear Lv_x0; have Lv_x0 := Lt; clear Lt
      have Lt := Lv_g.kept Lv_x1 hg (by omega); clear Lv_g; have Lv_g := Lt; clear Lt
      have B13 := Below.marked B12 Lv_x1 hg (by omega); have S13 := hg.size; clear hg B12
      have Lt := Lv_x1.marked ho; clear Lv_x1 ho; have Lv_x1 := Lt; clear Lt
      go_wp2_with fail
      refine (eqIntS_any _ _ (mdL xs0 xs1) (mdL xs0 xs1) _ Lv_g.reads Lv_u.reads).mono ?_
      rintro e W14 ⟨rfl, hb⟩
      have Lt := Lv_s0.below hb; clear Lv_s0; have Lv_s0 := Lt; clear Lt
      have Lt := Lv_s1.below hb; clear Lv_s1; have Lv_s1 := Lt; clear Lt
      have Lt := Lv_u.below hb; clear Lv_u; have Lv_u := Lt; clear Lt
      have Lt := Lv_x0.below hb; clear Lv_x0; have Lv_x0 := Lt; clear Lt
      have Lt := Lv_x1.below hb; clear Lv_x1; have Lv_x1 := Lt; clear Lt
      have Lt := Lv_g.below hb; clear Lv_g; have Lv_g := Lt; clear Lt
      have B14 := Below_chain B13 hb; have S14 := hb.size; clear hb B13
      go_wp2_with fail
      refine (markIntS_any _ (mdL xs0 xs1) _ _ _ Lv_g.1 (by omega) (by omega) (by omega)).mono ?_
      rintro e W15 ⟨rfl, ho, hg⟩
      have Lt := Lv_s0.kept Lv_g hg (by omega); clear Lv_s0; have Lv_s0 := Lt; clear Lt
      have Lt := Lv_s1.kept Lv_g hg (by omega); clear Lv_s1; have Lv_s1 := Lt; clear Lt
      have Lt := Lv_u.kept Lv_g hg (by omega); clear Lv_u; have Lv_u := Lt; clear Lt
      have Lt := Lv_x0.kept Lv_g hg (by omega); clear Lv_x0; have Lv_x0 := Lt; clear Lt
      have Lt := Lv_x1.kept Lv_g hg (by omega); clear Lv_x1; have Lv_x1 := Lt; clear Lt
      have B15 := Below.marked B14 Lv_g hg (by omega); have S15 := hg.size; clear hg B14
      have Lt := Lv_g.marked ho; clear Lv_g ho; have Lv_g := Lt; clear Lt
      go_wp2_with fail
      refine (heldIntS_any _ (marks 1 (mdL xs0 xs1).length) _ _ Lv_g.reads (by rw [marks_length]) (by omega) (by omega) (by rw [marks_length]; omega)).mono ?_
      rintro e W16 ⟨rfl, he⟩
      subst he
      rw [marks_length]
      go_wp2_with fail
      refine (toIntS_any _ xs0 _ (HR0.out.below B15) hl0).mono ?_
      rintro e W16 ⟨rfl, ho, hb⟩
      have Lt := Lv_s0.below hb; clear Lv_s0; have Lv_s0 := Lt; clear Lt
      have Lt := Lv_s1.below hb; clear Lv_s1; have Lv_s1 := Lt; clear Lt
      have Lt := Lv_u.below hb; clear Lv_u; have Lv_u := Lt; clear Lt
      have Lt := Lv_x0.below hb; clear Lv_x0; have Lv_x0 := Lt; clear Lt
      have Lt := Lv_x1.below hb; clear Lv_x1; have Lv_x1 := Lt; clear Lt
      have Lt := Lv_g.below hb; clear Lv_g; have Lv_g := Lt; clear Lt
      have B16 := Below_chain B15 hb; have S16 := hb.size; clear hb B15
      have Lv_t0 := ho.lives; clear ho
      go_wp2_with fail
      refine (toIntS_any _ xs1 _ (HR1.out.below B16) hl1).mono ?_
      rintro e W17 ⟨rfl, ho, hb⟩
      have Lt := Lv_s0.below hb; clear Lv_s0; have Lv_s0 := Lt; clear Lt
      have Lt := Lv_s1.below hb; clear Lv_s1; have Lv_s1 := Lt; clear Lt
      have Lt := Lv_u.below hb; clear Lv_u; have Lv_u := Lt; clear Lt
      have Lt := Lv_x0.below hb; clear Lv_x0; have Lv_x0 := Lt; clear Lt
      have Lt := Lv_x1.below hb; clear Lv_x1; have Lv_x1 := Lt; clear Lt
      have Lt := Lv_g.below hb; clear Lv_g; have Lv_g := Lt; clear Lt
      have Lt := Lv_t0.below hb; clear Lv_t0; have Lv_t0 := Lt; clear Lt
      have B17 := Below_chain B16 hb; have S17 := hb.size; clear hb B16
      have Lv_t1 := ho.lives; clear ho
      go_wp2_with fail
      refine (law_impl_MendWindow _ xs0 _ xs1 _ Lv_t0.sits hl0 wf0.out Lv_t1.sits hl1 wf1.out).mono ?_
      rintro e W18 ⟨h, rfl, ho, hb⟩
      have Lt := Lv_s0.below hb; clear Lv_s0; have Lv_s0 := Lt; clear Lt
      have Lt := Lv_s1.below hb; clear Lv_s1; have Lv_s1 := Lt; clear Lt
      have Lt := Lv_u.below hb; clear Lv_u; have Lv_u := Lt; clear Lt
      have Lt := Lv_x0.below hb; clear Lv_x0; have Lv_x0 := Lt; clear Lt
      have Lt := Lv_x1.below hb; clear Lv_x1; have Lv_x1 := Lt; clear Lt
      have Lt := Lv_g.below hb; clear Lv_g; have Lv_g := Lt; clear Lt
      have Lt := Lv_t0.below hb; clear Lv_t0; have Lv_t0 := Lt; clear Lt
      have Lt := Lv_t1.below hb; clear Lv_t1; have Lv_t1 := Lt; clear Lt
      have B18 := Below_chain B17 hb; have S18 := hb.size; clear hb B17
      have Lv_h := ho.lives; clear ho
      go_wp2_with fail
      refine (eqIntS_any _ _ (mdL xs0 xs1) (mdL xs0 xs1) _ Lv_h.reads Lv_u.reads).mono ?_
      rintro e W19 ⟨rfl, hb⟩
      have Lt := Lv_s0.below hb; clear Lv_s0; have Lv_s0 := Lt; clear Lt
      have Lt := Lv_s1.below hb; clear Lv_s1; have Lv_s1 := Lt; clear Lt
      have Lt := Lv_u.below hb; clear Lv_u; have Lv_u := Lt; clear Lt
      have Lt := Lv_x0.below hb; clear Lv_x0; have Lv_x0 := Lt; clear Lt
      have Lt := Lv_x1.below hb; clear Lv_x1; have Lv_x1 := Lt; clear Lt
      have Lt := Lv_g.below hb; clear Lv_g; have Lv_g := Lt; clear Lt
      have Lt := Lv_t0.below hb; clear Lv_t0; have Lv_t0 := Lt; clear Lt
      have Lt := Lv_t1.below hb; clear Lv_t1; have Lv_t1 := Lt; clear Lt
      have Lt := Lv_h.below hb; clear Lv_h; have Lv_h := Lt; clear Lt
      have B19 := Below_chain B18 hb; have S19 := hb.size; clear hb B18
      go_wp2_with fail
      refine (heldIntS_any _ (marks 1 (mdL xs0 xs1).length) _ _ Lv_g.reads (by rw [marks_length]) (by omega) (by omega) (by rw [marks_length]; omega)).mono ?_
      rintro e W20 ⟨rfl, he⟩
      subst he
      rw [marks_length]
      go_wp2
      go_ret
      exact ⟨rfl, B19⟩
end Go.Proofs.Ytaajfpjekfmddab
