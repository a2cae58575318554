/- The walk of the law FnExactIsRoundExchange. Conditions: none. -/
import Derived.Test.YtkphbelgamfmnaaRndJ
import Derived.Test.YtkphbelgamfmnaaSS3
namespace Go.Proofs.Ytkphbelgamfmnaa
open Go.RowKit
set_option linter.unusedVariables false

set_option maxHeartbeats 1000000 in
theorem walk_FnExactIsRoundExchange (a0 : Int) (a1 : Int) (a2 : Option Addr) (len2 cap2 : Nat) (L2 : List (List Int)) (w : World) (w0 : (Lit.int .i64 a0).wf = true) (w1 : (Lit.int .i64 a1).wf = true) (w2 : ReadsL w (.slice a2 len2 cap2) L2 ∧ L2.length = len2 ∧ ∀ l ∈ L2, ∀ n ∈ l, (Lit.int .i64 n).wf = true) :
    Calls Try.prog 6 #[.int .i64 a0, .int .i64 a1, .slice a2 len2 cap2] w fun e w' => e = .returned (.bool true) ∧ Below w.heap.size w w' := by
  obtain ⟨w2, hL2, _⟩ := w2
  subst hL2
  have HR2 := hid w2
  clear w2 w0 w1
  have B0 : Below w.heap.size w w := Below.refl _ _
  go_enter Try.func6, Try.ntmps6
  go_wp2_with fail
  refine (szIntSS_any _ L2 1048576 _ HR2.out (by omega) (by omega)).mono ?_
  rintro e W0 ⟨q, rfl, rfl, hq1, hq2⟩
  by_cases hq : 0 ≤ q
  case neg =>
    have hq' : q < 0 := by omega
    clear hq2
    go_wp2_with fail
    go_ret
    exact ⟨rfl, Below.refl _ _⟩
  case pos =>
    have hq' : ¬ q < 0 := by omega
    obtain ⟨hl1, hl2⟩ := hq2 hq
    have hl1 : L2.length ≤ 1048576 := by omega
    have HL2 := hid (show ∀ i (hi : i < L2.length), L2[i].length ≤ 1048576 from fun i hi => by have := hl2 i hi; omega)
    clear hq2 hl2
    go_wp2_with fail
    refine (toIntSS_any _ L2 _ (HR2.out.below B0) hl1 HL2.out).mono ?_
    rintro e W1 ⟨rfl, ho, hb⟩
    have B1 := Below_chain B0 hb; clear hb B0
    have Lv_s := ho; clear ho
    go_wp2_with fail
    refine (spec_IsRoundExchange_any a0 a1 _ L2 _ _ Lv_s.1).mono ?_
    rintro e W2 ⟨rfl, hb⟩
    have B2 := Below_chain B1 hb; clear hb B1
    clear Lv_s
    go_wp2_with fail
    refine (toIntSS_any _ L2 _ (HR2.out.below B2) hl1 HL2.out).mono ?_
    rintro e W3 ⟨rfl, ho, hb⟩
    have B3 := Below_chain B2 hb; clear hb B2
    have Lv_x := ho; clear ho
    go_wp2_with fail
    refine (impl_IsRoundExchange_any a0 a1 _ L2 _ Lv_x.2).mono ?_
    rintro e W4 ⟨rfl, hb⟩
    have Lt := Lv_x.below hb; clear Lv_x; have Lv_x := Lt; clear Lt
    have B4 := Below_chain B3 hb; clear hb B3
    have hn1 : ((rdV a0 a1 L2) != (rdV a0 a1 L2)) = false := by simp
    have hn2 : ((chOk a0 a1 L2) != (chOk a0 a1 L2)) = false := by simp
    go_wp2_with fail
    refine (toIntSS_any _ L2 _ (HR2.out.below B4) hl1 HL2.out).mono ?_
    rintro e W5 ⟨rfl, ho, hb⟩
    have Lt := Lv_x.below hb; clear Lv_x; have Lv_x := Lt; clear Lt
    have B5 := Below_chain B4 hb; clear hb B4
    have Lv_y := ho; clear ho
    go_wp2_with fail
    refine (eqIntSS_any _ _ L2 _ _ _ Lv_x.1 Lv_y.1).mono ?_
    rintro e W6 ⟨rfl, hb⟩
    have B6 := Below_chain B5 hb; clear hb B5
    clear Lv_y Lv_x
    go_wp2_with fail
    go_ret
    exact ⟨rfl, B6⟩
end Go.Proofs.Ytkphbelgamfmnaa
