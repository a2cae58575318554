/- The walk of the law FnExactIsOrderCycle. Conditions: none. -/
import Derived.Test.YteimfdpkodcfbaaOrdy2
import Derived.Test.YteimfdpkodcfbaaBs1
namespace Go.Proofs.Yteimfdpkodcfbaa
open Go.RowKit
set_option linter.unusedVariables false

set_option maxHeartbeats 1000000 in
theorem walk_FnExactIsOrderCycle (a0 : Int) (a1 : Option Addr) (len1 cap1 : Nat) (z1 : List Int) (w : World) (w0 : (Lit.int .i64 a0).wf = true) (w1 : IsRow .i64 w a1 len1 cap1 z1) :
    Calls Try.prog 11 #[.int .i64 a0, .slice a1 len1 cap1] w fun e w' => e = .returned (.bool true) ∧ Below w.heap.size w w' := by
  obtain ⟨hr1, hlen1⟩ := w1.reads
  have wf1 := hid w1.wf
  generalize z1.take len1 = xs1 at hr1 hlen1 wf1
  subst hlen1
  clear w1
  have HR1 := hid hr1
  clear hr1
  by_cases hl1 : xs1.length ≤ 1048576
  case neg =>
    go_enter Try.func11, Try.ntmps11
    go_wp2
    go_ret
    exact ⟨rfl, Below.refl _ _⟩
  case pos =>
    have B0 : Below w.heap.size w w := Below.refl _ _
    go_enter Try.func11, Try.ntmps11
    go_wp2_with fail
    refine (toIntS_any _ xs1 _ (HR1.out.below B0) hl1).mono ?_
    rintro e W1 ⟨rfl, ho, hb⟩
    have B1 := Below_chain B0 hb; have S1 := hb.size; clear hb B0
    have Lv_s1 := ho.lives; clear ho
    go_wp2_with fail
    refine (spec_IsOrderCycle_any _ _ xs1 _ w0 Lv_s1.sits hl1 wf1.out).mono ?_
    rintro e W2 ⟨rfl, hb⟩
    have Lt := Lv_s1.below hb; clear Lv_s1; have Lv_s1 := Lt; clear Lt
    have B2 := Below_chain B1 hb; have S2 := hb.size; clear hb B1
    go_wp2_with fail
    refine (toIntS_any _ xs1 _ (HR1.out.below B2) hl1).mono ?_
    rintro e W3 ⟨rfl, ho, hb⟩
    have Lt := Lv_s1.below hb; clear Lv_s1; have Lv_s1 := Lt; clear Lt
    have B3 := Below_chain B2 hb; have S3 := hb.size; clear hb B2
    have Lv_x1 := ho.lives; clear ho
    go_wp2_with fail
    refine (impl_IsOrderCycle_any _ _ xs1 _ w0 Lv_x1.sits hl1 wf1.out).mono ?_
    rintro e W4 ⟨rfl, hb⟩
    have Lt := Lv_s1.below hb; clear Lv_s1; have Lv_s1 := Lt; clear Lt
    have Lt := Lv_x1.below hb; clear Lv_x1; have Lv_x1 := Lt; clear Lt
    have B4 := Below_chain B3 hb; have S4 := hb.size; clear hb B3
    have hn1 : ((ioR a0 xs1) != (ioR a0 xs1)) = false := by simp
    have hn2 : ((orOk a0 xs1) != (orOk a0 xs1)) = false := by simp
    have hdx1 : decide (xs1 = xs1) = true := by simp
    go_wp2_with fail
    refine (toIntS_any _ xs1 _ (HR1.out.below B4) hl1).mono ?_
    rintro e W5 ⟨rfl, ho, hb⟩
    have Lt := Lv_s1.below hb; clear Lv_s1; have Lv_s1 := Lt; clear Lt
    have Lt := Lv_x1.below hb; clear Lv_x1; have Lv_x1 := Lt; clear Lt
    have B5 := Below_chain B4 hb; have S5 := hb.size; clear hb B4
    have Lv_y1 := ho.lives; clear ho
    go_wp2_with fail
    refine (eqIntS_any _ _ xs1 xs1 _ Lv_x1.reads Lv_y1.reads).mono ?_
    rintro e W6 ⟨rfl, hb⟩
    have Lt := Lv_s1.below hb; clear Lv_s1; have Lv_s1 := Lt; clear Lt
    have Lt := Lv_x1.below hb; clear Lv_x1; have Lv_x1 := Lt; clear Lt
    have Lt := Lv_y1.below hb; clear Lv_y1; have Lv_y1 := Lt; clear Lt
    have B6 := Below_chain B5 hb; have S6 := hb.size; clear hb B5
    clear Lv_y1
    go_wp2
    go_ret
    exact ⟨rfl, B6⟩
end Go.Proofs.Yteimfdpkodcfbaa
