/- Contracts: gcMixedRank and both MixedRank functions. Conditions: the slices read as lists of at most 2^20 numbers. -/
import Derived.Test.YtkphbelgamfmnaaMix2
namespace Go.Proofs.Ytkphbelgamfmnaa
open Go.RowKit
set_option linter.unusedVariables false

def mrV (xs ys : List Int) : Int := if rankB xs ys = true then mixR xs ys else 0
theorem mrV_yes {xs ys : List Int} (h : rankB xs ys = true) : mrV xs ys = mixR xs ys := by unfold mrV; rw [if_pos h]
theorem mrV_no {xs ys : List Int} (h : rankB xs ys = false) : mrV xs ys = 0 := by unfold mrV; rw [if_neg (by rw [h]; simp)]
theorem okDig_tail {x y : Int} {bs ds : List Int} (h : okDig (x :: bs) (y :: ds)) : 0 ≤ y ∧ y < x ∧ okDig bs ds := ⟨h.1.1, h.1.2, h.2⟩
/-- The facts on one digit in front. -/
theorem mixR_facts {x y : Int} {bs ds : List Int} (h : allBases (x :: bs) = true) (hP : prodL (x :: bs) ≤ 1000000) (hd : okDig (x :: bs) (y :: ds)) :
    1 ≤ prodL bs ∧ prodL bs ≤ 1000000 ∧ 0 ≤ mixR bs ds ∧ mixR bs ds < prodL bs ∧ 0 ≤ y ∧ y ≤ 12 ∧ 0 ≤ y * prodL bs ∧ y * prodL bs ≤ 12000000 := by
  have ho := ones_of_bases h
  obtain ⟨t1, t2, t3⟩ := tail_bases h
  obtain ⟨d1, d2, d3⟩ := okDig_tail hd
  have h2 := prodL_pos (ones_tail ho).2
  have h3 := prodL_tail ho
  obtain ⟨r1, r2⟩ := mixR_range (ones_tail ho).2 d3
  have hm := Int.mul_le_mul (show y ≤ 12 by omega) (show prodL bs ≤ 1000000 by omega) (by omega) (by omega)
  exact ⟨h2, by omega, r1, r2, d1, by omega, Int.mul_nonneg d1 (by omega), by omega⟩
end Go.Proofs.Ytkphbelgamfmnaa
