/- The walk of the law FnExactIsPermutation. Conditions: none. -/
import Derived.Test.YtgfafnejgbblhaaPerm1
namespace Go.Proofs.Ytgfafnejgbblhaa
open Go.RowKit
set_option linter.unusedVariables false

theorem walk_FnExactIsPermutation (a0 : Option Addr) (len0 cap0 : Nat) (z0 : List Int) (w : World) (w0 : IsRow .i64 w a0 len0 cap0 z0) :
    Calls Try.prog 12 #[.slice a0 len0 cap0] w fun e w' => e = .returned (.bool true) ∧ Below w.heap.size w w' := by
  obtain ⟨hr, hlen⟩ := w0.reads
  generalize z0.take len0 = xs at hr hlen
  subst hlen
  clear w0
  by_cases hl : xs.length ≤ 1048576
  · go_enter Try.func12, Try.ntmps12
    go_wp2_with fail
    refine (toIntS_any _ xs _ hr hl).mono ?_
    rintro e wa ⟨rfl, ho1, hb1⟩
    go_wp2_with fail
    refine (spec_IsPermutation_any _ xs _ ho1.reads).mono ?_
    rintro e w' ⟨rfl, rfl⟩
    go_wp2_with fail
    have hr2 := hr.below hb1
    refine (toIntS_any _ xs _ hr2 hl).mono ?_
    rintro e wb ⟨rfl, ho2, hb2⟩
    go_wp2_with fail
    refine (impl_IsPermutation_any _ xs _ ho2.reads).mono ?_
    rintro e wc ⟨rfl, hb3⟩
    have hr3 := (hr2.below hb2).below hb3
    have ho3 := ho2.below hb3
    have hbb : (permB xs != permB xs) = false := by simp
    go_wp2_with fail
    refine (toIntS_any _ xs _ hr3 hl).mono ?_
    rintro e wd ⟨rfl, ho4, hb4⟩
    go_wp2_with fail
    refine (eqIntS_any _ _ xs xs _ (ho3.below hb4).reads ho4.reads).mono ?_
    rintro e we ⟨rfl, hb5⟩
    have hdd : decide (xs = xs) = true := by simp
    go_wp2
    go_ret
    exact ⟨rfl, Below_chain hb1 (Below_chain hb2 (Below_chain hb3 (Below_chain hb4 hb5)))⟩
  · go_enter Try.func12, Try.ntmps12
    go_wp2
    go_ret
    exact ⟨rfl, Below.refl _ _⟩
end Go.Proofs.Ytgfafnejgbblhaa
