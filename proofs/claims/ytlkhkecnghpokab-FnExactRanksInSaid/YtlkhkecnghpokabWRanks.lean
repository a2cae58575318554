/- The walk of the law FnExactRanksIn. Conditions: none. -/
import Derived.Test.YtlkhkecnghpokabSu3
import Derived.Test.YtlkhkecnghpokabBs1
import Derived.Test.YtlkhkecnghpokabOwnE
namespace Go.Proofs.Ytlkhkecnghpokab
open Go.RowKit
set_option linter.unusedVariables false

set_option maxHeartbeats 1000000 in
theorem walk_FnExactRanksIn (a0 : Int) (a1 : Option Addr) (len1 cap1 : Nat) (z1 : List Int) (w : World) (w0 : (Lit.int .i64 a0).wf = true) (w1 : IsRow .i64 w a1 len1 cap1 z1) :
    Calls Try.prog 4 #[.int .i64 a0, .slice a1 len1 cap1] w fun e w' => e = .returned (.bool true) ∧ Below w.heap.size w w' := by
  obtain ⟨hr1, hlen1⟩ := w1.reads
  have wf1 := hid w1.wf
  generalize z1.take len1 = xs1 at hr1 hlen1 wf1
  subst hlen1
  clear w1
  have HR1 := hid hr1
  clear hr1
  by_cases hl1 : xs1.length ≤ 1048576
  case neg =>
    go_enter Try.func4, Try.ntmps4
    go_wp2
    go_ret
    exact ⟨rfl, Below.refl _ _⟩
  case pos =>
    have B0 : Below w.heap.size w w := Below.refl _ _
    go_enter Try.func4, Try.ntmps4
    go_wp2_with fail
    refine (toIntS_any _ xs1 _ (HR1.out.below B0) hl1).mono ?_
    rintro e W1 ⟨rfl, ho, hb⟩
    have B1 := Below_chain B0 hb; have S1 := hb.size; clear hb B0
    have Lv_s1 := ho.livesE; clear ho
    go_wp2_with fail
    refine (spec_RanksIn_any _ _ xs1 _ w0 Lv_s1.sits hl1 wf1.out).mono ?_
    rintro e W2 ⟨u, rfl, ho, hb⟩
    have Lt := Lv_s1.below hb; clear Lv_s1; have Lv_s1 := Lt; clear Lt
    have B2 := Below_chain B1 hb; have S2 := hb.size; clear hb B1
    have Lv_u := ho.livesE; clear ho
    go_wp2_with fail
    refine (toIntS_any _ xs1 _ (HR1.out.below B2) hl1).mono ?_
    rintro e W3 ⟨rfl, ho, hb⟩
    have Lt := Lv_s1.below hb; clear Lv_s1; have Lv_s1 := Lt; clear Lt
    have Lt := Lv_u.below hb; clear Lv_u; have Lv_u := Lt; clear Lt
    have B3 := Below_chain B2 hb; have S3 := hb.size; clear hb B2
    have Lv_x1 := ho.livesE; clear ho
    go_wp2_with fail
    refine (impl_RanksIn_any _ _ xs1 _ w0 Lv_x1.sits hl1 wf1.out).mono ?_
    rintro e W4 ⟨g, rfl, ho, hb⟩
    have Lt := Lv_s1.below hb; clear Lv_s1; have Lv_s1 := Lt; clear Lt
    have Lt := Lv_u.below hb; clear Lv_u; have Lv_u := Lt; clear Lt
    have Lt := Lv_x1.below hb; clear Lv_x1; have Lv_x1 := Lt; clear Lt
    have B4 := Below_chain B3 hb; have S4 := hb.size; clear hb B3
    have Lv_g := ho.livesE; clear ho
    have hn2 : ((suOk a0 xs1) != (suOk a0 xs1)) = false := by simp
    have hX : (firRes a0 xs1).length ≤ 1048576 := bound_RanksIn a0 xs1
    have hd1 : decide ((firRes a0 xs1) = (firRes a0 xs1)) = true := by simp
    have hdx1 : decide (xs1 = xs1) = true := by simp
    go_wp2_with fail
    refine (eqIntS_any _ _ (firRes a0 xs1) (firRes a0 xs1) _ Lv_g.reads Lv_u.reads).mono ?_
    rintro e W5 ⟨rfl, hb⟩
    have Lt := Lv_s1.below hb; clear Lv_s1; have Lv_s1 := Lt; clear Lt
    have Lt := Lv_u.below hb; clear Lv_u; have Lv_u := Lt; clear Lt
    have Lt := Lv_x1.below hb; clear Lv_x1; have Lv_x1 := Lt; clear Lt
    have Lt := Lv_g.below hb; clear Lv_g; have Lv_g := Lt; clear Lt
    have B5 := Below_chain B4 hb; have S5 := hb.size; clear hb B4
    go_wp2_with fail
    refine (toIntS_any _ xs1 _ (HR1.out.below B5) hl1).mono ?_
    rintro e W6 ⟨rfl, ho, hb⟩
    have Lt := Lv_s1.below hb; clear Lv_s1; have Lv_s1 := Lt; clear Lt
    have Lt := Lv_u.below hb; clear Lv_u; have Lv_u := Lt; clear Lt
    have Lt := Lv_x1.below hb; clear Lv_x1; have Lv_x1 := Lt; clear Lt
    have Lt := Lv_g.below hb; clear Lv_g; have Lv_g := Lt; clear Lt
    have B6 := Below_chain B5 hb; have S6 := hb.size; clear hb B5
    have Lv_y1 := ho.livesE; clear ho
    go_wp2_with fail
    refine (eqIntS_any _ _ xs1 xs1 _ Lv_x1.reads Lv_y1.reads).mono ?_
    rintro e W7 ⟨rfl, hb⟩
    have Lt := Lv_s1.below hb; clear Lv_s1; have Lv_s1 := Lt; clear Lt
    have Lt := Lv_u.below hb; clear Lv_u; have Lv_u := Lt; clear Lt
    have Lt := Lv_x1.below hb; clear Lv_x1; have Lv_x1 := Lt; clear Lt
    have Lt := Lv_g.below hb; clear Lv_g; have Lv_g := Lt; clear Lt
    have Lt := Lv_y1.below hb; clear Lv_y1; have Lv_y1 := Lt; clear Lt
    have B7 := Below_chain B6 hb; have S7 := hb.size; clear hb B6
    clear Lv_y1
    go_wp2_with fail
    refine (markIntS_E _ xs1 _ _ _ Lv_x1.1 (by omega) (by omega) (by omega)).mono ?_
    rintro e W8 ⟨rfl, ho, hg⟩
    have Lt := Lv_s1.kept Lv_x1 hg (by omega); clear Lv_s1; have Lv_s1 := Lt; clear Lt
    have Lt := Lv_u.kept Lv_x1 hg (by omega); clear Lv_u; have Lv_u := Lt; clear Lt
    have Lt := Lv_g.kept Lv_x1 hg (by omega); clear Lv_g; have Lv_g := Lt; clear Lt
    have B8 := Below.markedE B7 Lv_x1 hg (by omega); have S8 := hg.size; clear hg B7
    have Lt := Lv_x1.marked ho; clear Lv_x1 ho; have Lv_x1 := Lt; clear Lt
    go_wp2_with fail
    refine (eqIntS_any _ _ (firRes a0 xs1) (firRes a0 xs1) _ Lv_g.reads Lv_u.reads).mono ?_
    rintro e W9 ⟨rfl, hb⟩
    have Lt := Lv_s1.below hb; clear Lv_s1; have Lv_s1 := Lt; clear Lt
    have Lt := Lv_u.below hb; clear Lv_u; have Lv_u := Lt; clear Lt
    have Lt := Lv_x1.below hb; clear Lv_x1; have Lv_x1 := Lt; clear Lt
    have Lt := Lv_g.below hb; clear Lv_g; have Lv_g := Lt; clear Lt
    have B9 := Below_chain B8 hb; have S9 := hb.size; clear hb B8
    go_wp2_with fail
    refine (markIntS_E _ (firRes a0 xs1) _ _ _ Lv_g.1 (by omega) (by omega) (by omega)).mono ?_
    rintro e W10 ⟨rfl, ho, hg⟩
    have Lt := Lv_s1.kept Lv_g hg (by omega); clear Lv_s1; have Lv_s1 := Lt; clear Lt
    have Lt := Lv_u.kept Lv_g hg (by omega); clear Lv_u; have Lv_u := Lt; clear Lt
    have Lt := Lv_x1.kept Lv_g hg (by omega); clear Lv_x1; have Lv_x1 := Lt; clear Lt
    have B10 := Below.markedE B9 Lv_g hg (by omega); have S10 := hg.size; clear hg B9
    have Lt := Lv_g.marked ho; clear Lv_g ho; have Lv_g := Lt; clear Lt
    go_wp2_with fail
    refine (heldIntS_any _ (marks 1 (firRes a0 xs1).length) _ _ Lv_g.reads (by rw [marks_length]) (by omega) (by omega) (by rw [marks_length]; omega)).mono ?_
    rintro e W11 ⟨rfl, he⟩
    subst he
    rw [marks_length]
    go_wp2_with fail
    refine (toIntS_any _ xs1 _ (HR1.out.below B10) hl1).mono ?_
    rintro e W11 ⟨rfl, ho, hb⟩
    have Lt := Lv_s1.below hb; clear Lv_s1; have Lv_s1 := Lt; clear Lt
    have Lt := Lv_u.below hb; clear Lv_u; have Lv_u := Lt; clear Lt
    have Lt := Lv_x1.below hb; clear Lv_x1; have Lv_x1 := Lt; clear Lt
    have Lt := Lv_g.below hb; clear Lv_g; have Lv_g := Lt; clear Lt
    have B11 := Below_chain B10 hb; have S11 := hb.size; clear hb B10
    have Lv_t1 := ho.livesE; clear ho
    go_wp2_with fail
    refine (impl_RanksIn_any _ _ xs1 _ w0 Lv_t1.sits hl1 wf1.out).mono ?_
    rintro e W12 ⟨h, rfl, ho, hb⟩
    have Lt := Lv_s1.below hb; clear Lv_s1; have Lv_s1 := Lt; clear Lt
    have Lt := Lv_u.below hb; clear Lv_u; have Lv_u := Lt; clear Lt
    have Lt := Lv_x1.below hb; clear Lv_x1; have Lv_x1 := Lt; clear Lt
    have Lt := Lv_g.below hb; clear Lv_g; have Lv_g := Lt; clear Lt
    have Lt := Lv_t1.below hb; clear Lv_t1; have Lv_t1 := Lt; clear Lt
    have B12 := Below_chain B11 hb; have S12 := hb.size; clear hb B11
    have Lv_h := ho.livesE; clear ho
    go_wp2_with fail
    refine (eqIntS_any _ _ (firRes a0 xs1) (firRes a0 xs1) _ Lv_h.reads Lv_u.reads).mono ?_
    rintro e W13 ⟨rfl, hb⟩
    have Lt := Lv_s1.below hb; clear Lv_s1; have Lv_s1 := Lt; clear Lt
    have Lt := Lv_u.below hb; clear Lv_u; have Lv_u := Lt; clear Lt
    have Lt := Lv_x1.below hb; clear Lv_x1; have Lv_x1 := Lt; clear Lt
    have Lt := Lv_g.below hb; clear Lv_g; have Lv_g := Lt; clear Lt
    have Lt := Lv_t1.below hb; clear Lv_t1; have Lv_t1 := Lt; clear Lt
    have Lt := Lv_h.below hb; clear Lv_h; have Lv_h := Lt; clear Lt
    have B13 := Below_chain B12 hb; have S13 := hb.size; clear hb B12
    go_wp2_with fail
    refine (heldIntS_any _ (marks 1 (firRes a0 xs1).length) _ _ Lv_g.reads (by rw [marks_length]) (by omega) (by omega) (by rw [marks_length]; omega)).mono ?_
    rintro e W14 ⟨rfl, he⟩
    subst he
    rw [marks_length]
    go_wp2
    go_ret
    exact ⟨rfl, B13⟩
end Go.Proofs.Ytlkhkecnghpokab
