/- Contracts: both MixedRank functions. Conditions: the slices read as lists of at most 2^20 numbers. -/
import Derived.Test.YtkphbelgamfmnaaMix3
namespace Go.Proofs.Ytkphbelgamfmnaa
open Go.RowKit
set_option linter.unusedVariables false

theorem rankB_facts {xs ys : List Int} (h1 : basesB xs = true) (h2 : areDig xs ys = true) : xs.length ≤ 12 ∧ allBases xs = true ∧ prodL xs ≤ 1000000 ∧ okDig xs ys := by
  obtain ⟨k1, k2, k3⟩ := basesB_iff.1 h1
  rw [prodTo_prodL] at k3
  exact ⟨k1, k2, k3, okDig_of h2⟩
theorem allBases_drop {xs : List Int} (h : allBases xs = true) (k : Nat) : allBases (xs.drop k) = true := by
  have h0 := (allTo_iff _ _).1 h
  refine (allTo_iff _ _).2 (fun i hi => ?_)
  have := h0 (k + i) (by simp at hi; omega)
  simp only [baseAt] at this ⊢
  rwa [List.getD_eq_getElem?_getD, List.getElem?_drop, ← List.getD_eq_getElem?_getD]
/-- one round of the loop over the digits, from the end -/
theorem mixR_round {xs ys : List Int} (hall : allBases xs = true) (hle : prodL xs ≤ 1000000) (hd : okDig xs ys) {j : Nat} (hx : j < xs.length) (hy : j < ys.length) :
    1 ≤ prodL (xs.drop (j + 1)) ∧ prodL (xs.drop (j + 1)) ≤ 1000000 ∧ 0 ≤ mixR (xs.drop (j + 1)) (ys.drop (j + 1)) ∧ mixR (xs.drop (j + 1)) (ys.drop (j + 1)) < prodL (xs.drop (j + 1)) ∧
    0 ≤ ys[j] ∧ ys[j] ≤ 12 ∧ 0 ≤ ys[j] * prodL (xs.drop (j + 1)) ∧ ys[j] * prodL (xs.drop (j + 1)) ≤ 12000000 ∧
    0 ≤ prodL (xs.drop (j + 1)) * xs[j] ∧ prodL (xs.drop (j + 1)) * xs[j] ≤ 1000000 ∧ prodL (xs.drop j) = prodL (xs.drop (j + 1)) * xs[j] := by
  have e1 := List.drop_eq_getElem_cons hx
  have e2 := List.drop_eq_getElem_cons hy
  have h1 := allBases_drop hall j
  have h2 := prodL_drop_le (ones_of_bases hall) j
  have h3 := okDig_drop hd j
  have h4 := prodL_drop hx
  have hp0 := prodL_pos (ones_of_bases h1)
  rw [e1] at h1
  rw [e1, e2] at h3
  have h5 : prodL (xs[j] :: xs.drop (j + 1)) ≤ 1000000 := by rw [← e1]; omega
  obtain ⟨f1, f2, f3, f4, f5, f6, f7, f8⟩ := mixR_facts h1 h5 h3
  have e3 : prodL (xs.drop j) = prodL (xs.drop (j + 1)) * xs[j] := by rw [h4, Int.mul_comm]
  exact ⟨f1, f2, f3, f4, f5, f6, f7, f8, by rw [← e3]; omega, by rw [← e3]; omega, e3⟩
end Go.Proofs.Ytkphbelgamfmnaa
