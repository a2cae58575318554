/- The walk of the law FnExactIsFullRegister. Conditions: none. -/
import Derived.Test.YtaajfpjekfmddabRg3
import Derived.Test.YtaajfpjekfmddabBs1
namespace Go.Proofs.Ytaajfpjekfmddab
open Go.RowKit
set_option linter.unusedVariables false

set_option maxHeartbeats 1000000 in
theorem walk_FnExactIsFullRegister (a0 : Option Addr) (len0 cap0 : Nat) (z0 : List Int) (a1 : Int) (w : World) (w0 : IsRow .i64 w a0 len0 cap0 z0) (w1 : (Lit.int .i64 a1).wf = true) :
    Calls Try.prog 9 #[.slice a0 len0 cap0, .int .i64 a1] w fun e w' => e = .returned (.bool true) ∧ Below w.heap.size w w' := by
  obtain ⟨hr0, hlen0⟩ := w0.reads
  have wf0 := hid w0.wf
  generalize z0.take len0 = xs0 at hr0 hlen0 wf0
  subst hlen0
  clear w0
  have HR0 := hid hr0
  clear hr0
  by_cases hl0 : xs0.length ≤ 1048576
  case neg =>
    go_enter Try.func9, Try.ntmps9
    go_wp2
    go_ret
    exact ⟨rfl, Below.refl _ _⟩
  case pos =>
    have B0 : Below w.heap.size w w := Below.refl _ _
    go_enter Try.func9, Try.ntmps9
    go_wp2_with fail
    refine (toIntS_any _ xs0 _ (HR0.out.below B0) hl0).mono ?_
    rintro e W1 ⟨rfl, ho, hb⟩
    have B1 := Below_chain B0 hb; have S1 := hb.size; clear hb B0
    have Lv_s0 := ho.lives; clear ho
    go_wp2_with fail
    refine (law_spec_IsFullRegister _ xs0 _ _ Lv_s0.sits hl0 wf0.out w1).mono ?_
    rintro e W2 ⟨rfl, hb⟩
    have Lt := Lv_s0.below hb; clear Lv_s0; have Lv_s0 := Lt; clear Lt
    have B2 := Below_chain B1 hb; have S2 := hb.size; clear hb B1
    go_wp2_with fail
    refine (toIntS_any _ xs0 _ (HR0.out.below B2) hl0).mono ?_
    rintro e W3 ⟨rfl, ho, hb⟩
    have Lt := Lv_s0.below hb; clear Lv_s0; have Lv_s0 := Lt; clear Lt
    have B3 := Below_chain B2 hb; have S3 := hb.size; clear hb B2
    have Lv_x0 := ho.lives; clear ho
    go_wp2_with fail
    refine (law_impl_IsFullRegister _ xs0 _ _ Lv_x0.sits hl0 wf0.out w1).mono ?_
    rintro e W4 ⟨rfl, hb⟩
    have Lt := Lv_s0.below hb; clear Lv_s0; have Lv_s0 := Lt; clear Lt
    have Lt := Lv_x0.below hb; clear Lv_x0; have Lv_x0 := Lt; clear Lt
    have B4 := Below_chain B3 hb; have S4 := hb.size; clear hb B3
    have hn1 : ((frR xs0 a1) != (frR xs0 a1)) = false := by simp
    have hn2 : ((tapsB xs0 a1) != (tapsB xs0 a1)) = false := by simp
    have hdx0 : decide (xs0 = xs0) = true := by simp
    go_wp2_with fail
    refine (toIntS_any _ xs0 _ (HR0.out.below B4) hl0).mono ?_
    rintro e W5 ⟨rfl, ho, hb⟩
    have Lt := Lv_s0.below hb; clear Lv_s0; have Lv_s0 := Lt; clear Lt
    have Lt := Lv_x0.below hb; clear Lv_x0; have Lv_x0 := Lt; clear Lt
    have B5 := Below_chain B4 hb; have S5 := hb.size; clear hb B4
    have Lv_y0 := ho.lives; clear ho
    go_wp2_with fail
    refine (eqIntS_any _ _ xs0 xs0 _ Lv_x0.reads Lv_y0.reads).mono ?_
    rintro e W6 ⟨rfl, hb⟩
    have Lt := Lv_s0.below hb; clear Lv_s0; have Lv_s0 := Lt; clear Lt
    have Lt := Lv_x0.below hb; clear Lv_x0; have Lv_x0 := Lt; clear Lt
    have Lt := Lv_y0.below hb; clear Lv_y0; have Lv_y0 := Lt; clear Lt
    have B6 := Below_chain B5 hb; have S6 := hb.size; clear hb B5
    clear Lv_y0
    go_wp2
    go_ret
    exact ⟨rfl, B6⟩
end Go.Proofs.Ytaajfpjekfmddab
