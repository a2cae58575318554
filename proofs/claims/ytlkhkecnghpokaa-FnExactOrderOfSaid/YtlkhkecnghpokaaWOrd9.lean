/- The walk of the law FnExactOrderOf. Conditions: none. -/
import Derived.Test.YtlkhkecnghpokaaOr1
import Derived.Test.YtlkhkecnghpokaaBs1
namespace Go.Proofs.Ytlkhkecnghpokaa
open Go.RowKit
set_option linter.unusedVariables false

set_option maxHeartbeats 1000000 in
theorem walk_FnExactOrderOf (a0 : Option Addr) (len0 cap0 : Nat) (z0 : List Int) (w : World) (w0 : IsRow .i64 w a0 len0 cap0 z0) :
    Calls Try.prog 11 #[.slice a0 len0 cap0] w fun e w' => e = .returned (.bool true) ∧ Below w.heap.size w w' := by
  obtain ⟨hr0, hlen0⟩ := w0.reads
  have wf0 := hid w0.wf
  generalize z0.take len0 = xs0 at hr0 hlen0 wf0
  subst hlen0
  clear w0
  have HR0 := hid hr0
  clear hr0
  by_cases hl0 : xs0.length ≤ 1048576
  case neg =>
    go_enter Try.func11, Try.ntmps11
    go_wp2
    go_ret
    exact ⟨rfl, Below.refl _ _⟩
  case pos =>
    have B0 : Below w.heap.size w w := Below.refl _ _
    go_enter Try.func11, Try.ntmps11
    go_wp2_with fail
    refine (toIntS_any _ xs0 _ (HR0.out.below B0) hl0).mono ?_
    rintro e W1 ⟨rfl, ho, hb⟩
    have B1 := Below_chain B0 hb; have S1 := hb.size; clear hb B0
    have Lv_s0 := ho.lives; clear ho
    go_wp2_with fail
    refine (spec_OrderOf_any _ xs0 _ Lv_s0.sits hl0 wf0.out).mono ?_
    rintro e W2 ⟨u, rfl, ho, hb⟩
    have Lt := Lv_s0.below hb; clear Lv_s0; have Lv_s0 := Lt; clear Lt
    have B2 := Below_chain B1 hb; have S2 := hb.size; clear hb B1
    have Lv_u := ho.lives; clear ho
    go_wp2_with fail
    refine (toIntS_any _ xs0 _ (HR0.out.below B2) hl0).mono ?_
    rintro e W3 ⟨rfl, ho, hb⟩
    have Lt := Lv_s0.below hb; clear Lv_s0; have Lv_s0 := Lt; clear Lt
    have Lt := Lv_u.below hb; clear Lv_u; have Lv_u := Lt; clear Lt
    have B3 := Below_chain B2 hb; have S3 := hb.size; clear hb B2
    have Lv_x0 := ho.lives; clear ho
    go_wp2_with fail
    refine (impl_OrderOf_any _ xs0 _ Lv_x0.sits hl0 wf0.out).mono ?_
    rintro e W4 ⟨g, rfl, ho, hb⟩
    have Lt := Lv_s0.below hb; clear Lv_s0; have Lv_s0 := Lt; clear Lt
    have Lt := Lv_u.below hb; clear Lv_u; have Lv_u := Lt; clear Lt
    have Lt := Lv_x0.below hb; clear Lv_x0; have Lv_x0 := Lt; clear Lt
    have B4 := Below_chain B3 hb; have S4 := hb.size; clear hb B3
    have Lv_g := ho.lives; clear ho
    have hn2 : ((ordB xs0) != (ordB xs0)) = false := by simp
    have hX : (ordR xs0).length ≤ 1048576 := bound_OrderOf xs0
    have hd1 : decide ((ordR xs0) = (ordR xs0)) = true := by simp
    have hdx0 : decide (xs0 = xs0) = true := by simp
    go_wp2_with fail
    refine (eqIntS_any _ _ (ordR xs0) (ordR xs0) _ Lv_g.reads Lv_u.reads).mono ?_
    rintro e W5 ⟨rfl, hb⟩
    have Lt := Lv_s0.below hb; clear Lv_s0; have Lv_s0 := Lt; clear Lt
    have Lt := Lv_u.below hb; clear Lv_u; have Lv_u := Lt; clear Lt
    have Lt := Lv_x0.below hb; clear Lv_x0; have Lv_x0 := Lt; clear Lt
    have Lt := Lv_g.below hb; clear Lv_g; have Lv_g := Lt; clear Lt
    have B5 := Below_chain B4 hb; have S5 := hb.size; clear hb B4
    go_wp2_with fail
    refine (toIntS_any _ xs0 _ (HR0.out.below B5) hl0).mono ?_
    rintro e W6 ⟨rfl, ho, hb⟩
    have Lt := Lv_s0.below hb; clear Lv_s0; have Lv_s0 := Lt; clear Lt
    have Lt := Lv_u.below hb; clear Lv_u; have Lv_u := Lt; clear Lt
    have Lt := Lv_x0.below hb; clear Lv_x0; have Lv_x0 := Lt; clear Lt
    have Lt := Lv_g.below hb; clear Lv_g; have Lv_g := Lt; clear Lt
    have B6 := Below_chain B5 hb; have S6 := hb.size; clear hb B5
    have Lv_y0 := ho.lives; clear ho
    go_wp2_with fail
    refine (eqIntS_any _ _ xs0 xs0 _ Lv_x0.reads Lv_y0.reads).mono ?_
    rintro e W7 ⟨rfl, hb⟩
    have Lt := Lv_s0.below hb; clear Lv_s0; have Lv_s0 := Lt; clear Lt
    have Lt := Lv_u.below hb; clear Lv_u; have Lv_u := Lt; clear Lt
    have Lt := Lv_x0.below hb; clear Lv_x0; have Lv_x0 := Lt; clear Lt
    have Lt := Lv_g.below hb; clear Lv_g; have Lv_g := Lt; clear Lt
    have Lt := Lv_y0.below hb; clear Lv_y0; have Lv_y0 := Lt; clear Lt
    have B7 := Below_chain B6 hb; have S7 := hb.size; clear hb B6
    clear Lv_y0
    go_wp2_with fail
    refine (markIntS_any _ xs0 _ _ _ Lv_x0.1 (by omega) (by omega) (by omega)).mono ?_
    rintro e W8 ⟨rfl, ho, hg⟩
    have Lt := Lv_s0.kept Lv_x0 hg (by omega); clear Lv_s0; have Lv_s0 := Lt; clear Lt
    have Lt := Lv_u.kept Lv_x0 hg (by omega); clear Lv_u; have Lv_u := Lt; clear Lt
    have Lt := Lv_g.kept Lv_x0 hg (by omega); clear Lv_g; have Lv_g := Lt; clear Lt
    have B8 := Below.marked B7 Lv_x0 hg (by omega); have S8 := hg.size; clear hg B7
    have Lt := Lv_x0.marked ho; clear Lv_x0 ho; have Lv_x0 := Lt; clear Lt
    go_wp2_with fail
    refine (eqIntS_any _ _ (ordR xs0) (ordR xs0) _ Lv_g.reads Lv_u.reads).mono ?_
    rintro e W9 ⟨rfl, hb⟩
    have Lt := Lv_s0.below hb; clear Lv_s0; have Lv_s0 := Lt; clear Lt
    have Lt := Lv_u.below hb; clear Lv_u; have Lv_u := Lt; clear Lt
    have Lt := Lv_x0.below hb; clear Lv_x0; have Lv_x0 := Lt; clear Lt
    have Lt := Lv_g.below hb; clear Lv_g; have Lv_g := Lt; clear Lt
    have B9 := Below_chain B8 hb; have S9 := hb.size; clear hb B8
    go_wp2_with fail
    refine (markIntS_any _ (ordR xs0) _ _ _ Lv_g.1 (by omega) (by omega) (by omega)).mono ?_
    rintro e W10 ⟨rfl, ho, hg⟩
    have Lt := Lv_s0.kept Lv_g hg (by omega); clear Lv_s0; have Lv_s0 := Lt; clear Lt
    have Lt := Lv_u.kept Lv_g hg (by omega); clear Lv_u; have Lv_u := Lt; clear Lt
    have Lt := Lv_x0.kept Lv_g hg (by omega); clear Lv_x0; have Lv_x0 := Lt; clear Lt
    have B10 := Below.marked B9 Lv_g hg (by omega); have S10 := hg.size; clear hg B9
    have Lt := Lv_g.marked ho; clear Lv_g ho; have Lv_g := Lt; clear Lt
    go_wp2_with fail
    refine (heldIntS_any _ (marks 1 (ordR xs0).length) _ _ Lv_g.reads (by rw [marks_length]) (by omega) (by omega) (by rw [marks_length]; omega)).mono ?_
    rintro e W11 ⟨rfl, he⟩
    subst he
    rw [marks_length]
    go_wp2_with fail
    refine (toIntS_any _ xs0 _ (HR0.out.below B10) hl0).mono ?_
    rintro e W11 ⟨rfl, ho, hb⟩
    have Lt := Lv_s0.below hb; clear Lv_s0; have Lv_s0 := Lt; clear Lt
    have Lt := Lv_u.below hb; clear Lv_u; have Lv_u := Lt; clear Lt
    have Lt := Lv_x0.below hb; clear Lv_x0; have Lv_x0 := Lt; clear Lt
    have Lt := Lv_g.below hb; clear Lv_g; have Lv_g := Lt; clear Lt
    have B11 := Below_chain B10 hb; have S11 := hb.size; clear hb B10
    have Lv_t0 := ho.lives; clear ho
    go_wp2_with fail
    refine (impl_OrderOf_any _ xs0 _ Lv_t0.sits hl0 wf0.out).mono ?_
    rintro e W12 ⟨h, rfl, ho, hb⟩
    have Lt := Lv_s0.below hb; clear Lv_s0; have Lv_s0 := Lt; clear Lt
    have Lt := Lv_u.below hb; clear Lv_u; have Lv_u := Lt; clear Lt
    have Lt := Lv_x0.below hb; clear Lv_x0; have Lv_x0 := Lt; clear Lt
    have Lt := Lv_g.below hb; clear Lv_g; have Lv_g := Lt; clear Lt
    have Lt := Lv_t0.below hb; clear Lv_t0; have Lv_t0 := Lt; clear Lt
    have B12 := Below_chain B11 hb; have S12 := hb.size; clear hb B11
    have Lv_h := ho.lives; clear ho
    go_wp2_with fail
    refine (eqIntS_any _ _ (ordR xs0) (ordR xs0) _ Lv_h.reads Lv_u.reads).mono ?_
    rintro e W13 ⟨rfl, hb⟩
    have Lt := Lv_s0.below hb; clear Lv_s0; have Lv_s0 := Lt; clear Lt
    have Lt := Lv_u.below hb; clear Lv_u; have Lv_u := Lt; clear Lt
    have Lt := Lv_x0.below hb; clear Lv_x0; have Lv_x0 := Lt; clear Lt
    have Lt := Lv_g.below hb; clear Lv_g; have Lv_g := Lt; clear Lt
    have Lt := Lv_t0.below hb; clear Lv_t0; have Lv_t0 := Lt; clear Lt
    have Lt := Lv_h.below hb; clear Lv_h; have Lv_h := Lt; clear Lt
    have B13 := Below_chain B12 hb; have S13 := hb.size; clear hb B12
    go_wp2_with fail
    refine (heldIntS_any _ (marks 1 (ordR xs0).length) _ _ Lv_g.reads (by rw [marks_length]) (by omega) (by omega) (by rw [marks_length]; omega)).mono ?_
    rintro e W14 ⟨rfl, he⟩
    subst he
    rw [marks_length]
    go_wp2
    go_ret
    exact ⟨rfl, B13⟩
end Go.Proofs.Ytlkhkecnghpokaa
