/- The walk of the law FnExactExchangeOf. Conditions: none. -/
import Derived.Test.YtijjdidljoicfaaI3
import Derived.Test.YtijjdidljoicfaaSits
namespace Go.Proofs.Ytijjdidljoicfaa
open Go.RowKit
set_option linter.unusedVariables false

set_option maxHeartbeats 1000000 in
theorem walk_FnExactExchangeOf (a0 : Int) (a1 : Option Addr) (len1 cap1 : Nat) (z1 : List Int) (a2 : Option Addr) (len2 cap2 : Nat) (z2 : List Int) (w : World) (w0 : (Lit.int .i64 a0).wf = true) (w1 : IsRow .i64 w a1 len1 cap1 z1) (w2 : IsRow .i64 w a2 len2 cap2 z2) :
    Calls Try.prog 9 #[.int .i64 a0, .slice a1 len1 cap1, .slice a2 len2 cap2] w fun e w' => e = .returned (.bool true) ∧ Below w.heap.size w w' := by
  obtain ⟨hr1, hlen1⟩ := w1.reads
  have wf1 := hid w1.wf
  generalize z1.take len1 = xs1 at hr1 hlen1 wf1
  subst hlen1
  clear w1
  have HR1 := hid hr1
  clear hr1
  obtain ⟨hr2, hlen2⟩ := w2.reads
  have wf2 := hid w2.wf
  generalize z2.take len2 = xs2 at hr2 hlen2 wf2
  subst hlen2
  clear w2
  have HR2 := hid hr2
  clear hr2
  by_cases hl1 : xs1.length ≤ 1048576
  case neg =>
    go_enter Try.func9, Try.ntmps9
    go_wp2
    go_ret
    exact ⟨rfl, Below.refl _ _⟩
  case pos =>
    by_cases hl2 : xs2.length ≤ 1048576
    case neg =>
      go_enter Try.func9, Try.ntmps9
      go_wp2
      go_ret
      exact ⟨rfl, Below.refl _ _⟩
    case pos =>
      have B0 : Below w.heap.size w w := Below.refl _ _
      go_enter Try.func9, Try.ntmps9
      go_wp2_with fail
      refine (toIntS_any _ xs1 _ (HR1.out.below B0) hl1).mono ?_
      rintro e W1 ⟨rfl, ho, hb⟩
      have B1 := Below_chain B0 hb; have S1 := hb.size; clear hb B0
      have Lv_s1 := ho.lives; clear ho
      go_wp2_with fail
      refine (toIntS_any _ xs2 _ (HR2.out.below B1) hl2).mono ?_
      rintro e W2 ⟨rfl, ho, hb⟩
      have Lt := Lv_s1.below hb; clear Lv_s1; have Lv_s1 := Lt; clear Lt
      have B2 := Below_chain B1 hb; have S2 := hb.size; clear hb B1
      have Lv_s2 := ho.lives; clear ho
      go_wp2_with fail
      refine (spec_ExchangeOf_any _ _ xs1 _ xs2 _ w0 Lv_s1.sits hl1 wf1.out Lv_s2.sits hl2 wf2.out).mono ?_
      rintro e W3 ⟨rfl, hb⟩
      have Lt := Lv_s1.below hb; clear Lv_s1; have Lv_s1 := Lt; clear Lt
      have Lt := Lv_s2.below hb; clear Lv_s2; have Lv_s2 := Lt; clear Lt
      have B3 := Below_chain B2 hb; have S3 := hb.size; clear hb B2
      go_wp2_with fail
      refine (toIntS_any _ xs1 _ (HR1.out.below B3) hl1).mono ?_
      rintro e W4 ⟨rfl, ho, hb⟩
      have Lt := Lv_s1.below hb; clear Lv_s1; have Lv_s1 := Lt; clear Lt
      have Lt := Lv_s2.below hb; clear Lv_s2; have Lv_s2 := Lt; clear Lt
      have B4 := Below_chain B3 hb; have S4 := hb.size; clear hb B3
      have Lv_x1 := ho.lives; clear ho
      go_wp2_with fail
      refine (toIntS_any _ xs2 _ (HR2.out.below B4) hl2).mono ?_
      rintro e W5 ⟨rfl, ho, hb⟩
      have Lt := Lv_s1.below hb; clear Lv_s1; have Lv_s1 := Lt; clear Lt
      have Lt := Lv_s2.below hb; clear Lv_s2; have Lv_s2 := Lt; clear Lt
      have Lt := Lv_x1.below hb; clear Lv_x1; have Lv_x1 := Lt; clear Lt
      have B5 := Below_chain B4 hb; have S5 := hb.size; clear hb B4
      have Lv_x2 := ho.lives; clear ho
      go_wp2_with fail
      refine (impl_ExchangeOf_any _ _ xs1 _ xs2 _ w0 Lv_x1.sits hl1 wf1.out Lv_x2.sits hl2 wf2.out).mono ?_
      rintro e W6 ⟨rfl, hb⟩
      have Lt := Lv_s1.below hb; clear Lv_s1; have Lv_s1 := Lt; clear Lt
      have Lt := Lv_s2.below hb; clear Lv_s2; have Lv_s2 := Lt; clear Lt
      have Lt := Lv_x1.below hb; clear Lv_x1; have Lv_x1 := Lt; clear Lt
      have Lt := Lv_x2.below hb; clear Lv_x2; have Lv_x2 := Lt; clear Lt
      have B6 := Below_chain B5 hb; have S6 := hb.size; clear hb B5
      have hn1 : (((xoO a0 xs1 xs2)) != ((xoO a0 xs1 xs2))) = false := by simp
      have hn2 : (((xoB a0 xs1 xs2)) != ((xoB a0 xs1 xs2))) = false := by simp
      have hn3 : (((xoI a0 xs1 xs2)) != ((xoI a0 xs1 xs2))) = false := by simp
      have hdx1 : decide (xs1 = xs1) = true := by simp
      have hdx2 : decide (xs2 = xs2) = true := by simp
      go_wp2_with fail
      refine (toIntS_any _ xs1 _ (HR1.out.below B6) hl1).mono ?_
      rintro e W7 ⟨rfl, ho, hb⟩
      have Lt := Lv_s1.below hb; clear Lv_s1; have Lv_s1 := Lt; clear Lt
      have Lt := Lv_s2.below hb; clear Lv_s2; have Lv_s2 := Lt; clear Lt
      have Lt := Lv_x1.below hb; clear Lv_x1; have Lv_x1 := Lt; clear Lt
      have Lt := Lv_x2.below hb; clear Lv_x2; have Lv_x2 := Lt; clear Lt
      have B7 := Below_chain B6 hb; have S7 := hb.size; clear hb B6
      have Lv_y1 := ho.lives; clear ho
      go_wp2_with fail
      refine (eqIntS_any _ _ xs1 xs1 _ Lv_x1.reads Lv_y1.reads).mono ?_
      rintro e W8 ⟨rfl, hb⟩
      have Lt := Lv_s1.below hb; clear Lv_s1; have Lv_s1 := Lt; clear Lt
      have Lt := Lv_s2.below hb; clear Lv_s2; have Lv_s2 := Lt; clear Lt
      have Lt := Lv_x1.below hb; clear Lv_x1; have Lv_x1 := Lt; clear Lt
      have Lt := Lv_x2.below hb; clear Lv_x2; have Lv_x2 := Lt; clear Lt
      have Lt := Lv_y1.below hb; clear Lv_y1; have Lv_y1 := Lt; clear Lt
      have B8 := Below_chain B7 hb; have S8 := hb.size; clear hb B7
      clear Lv_y1
      go_wp2_with fail
      refine (toIntS_any _ xs2 _ (HR2.out.below B8) hl2).mono ?_
      rintro e W9 ⟨rfl, ho, hb⟩
      have Lt := Lv_s1.below hb; clear Lv_s1; have Lv_s1 := Lt; clear Lt
      have Lt := Lv_s2.below hb; clear Lv_s2; have Lv_s2 := Lt; clear Lt
      have Lt := Lv_x1.below hb; clear Lv_x1; have Lv_x1 := Lt; clear Lt
      have Lt := Lv_x2.below hb; clear Lv_x2; have Lv_x2 := Lt; clear Lt
      have B9 := Below_chain B8 hb; have S9 := hb.size; clear hb B8
      have Lv_y2 := ho.lives; clear ho
      go_wp2_with fail
      refine (eqIntS_any _ _ xs2 xs2 _ Lv_x2.reads Lv_y2.reads).mono ?_
      rintro e W10 ⟨rfl, hb⟩
      have Lt := Lv_s1.below hb; clear Lv_s1; have Lv_s1 := Lt; clear Lt
      have Lt := Lv_s2.below hb; clear Lv_s2; have Lv_s2 := Lt; clear Lt
      have Lt := Lv_x1.below hb; clear Lv_x1; have Lv_x1 := Lt; clear Lt
      have Lt := Lv_x2.below hb; clear Lv_x2; have Lv_x2 := Lt; clear Lt
      have Lt := Lv_y2.below hb; clear Lv_y2; have Lv_y2 := Lt; clear Lt
      have B10 := Below_chain B9 hb; have S10 := hb.size; clear hb B9
      clear Lv_y2
      go_wp2
      go_ret
      exact ⟨rfl, B10⟩
end Go.Proofs.Ytijjdidljoicfaa
