/- Contracts: both MixedAt functions. Conditions: the slice reads as a list of at most 2^20 numbers. -/
import Derived.Test.YtkphbelgamfmnaaMix1
import Derived.Test.YtkphbelgamfmnaaRow
namespace Go.Proofs.Ytkphbelgamfmnaa
open Go.RowKit
set_option linter.unusedVariables false

def mxRes (xs : List Int) (r : Int) : List Int := if digB xs r = true then mixL xs r else []
theorem mxRes_yes {xs : List Int} {r : Int} (h : digB xs r = true) : mxRes xs r = mixL xs r := by unfold mxRes; rw [if_pos h]
theorem mxRes_no {xs : List Int} {r : Int} (h : digB xs r = false) : mxRes xs r = [] := by unfold mxRes; rw [if_neg (by rw [h]; simp)]
theorem bound_MixedAt (xs : List Int) (r : Int) : (mxRes xs r).length ≤ 1048576 := by
  cases h : digB xs r with
  | false => rw [mxRes_no h]; simp
  | true =>
    rw [mxRes_yes h, mixL_length]
    simp only [digB, Bool.and_eq_true] at h
    have := (basesB_iff.1 h.1).1
    omega
theorem digB_facts {xs : List Int} {r : Int} (h : digB xs r = true) : basesB xs = true ∧ xs.length ≤ 12 ∧ allBases xs = true ∧ prodL xs ≤ 1000000 ∧ 0 ≤ r ∧ r < prodL xs := by
  simp only [digB, Bool.and_eq_true] at h
  obtain ⟨h1, h2, h3⟩ := basesB_iff.1 h.1
  have h4 := inB_iff.1 h.2
  rw [prodTo_prodL] at h3 h4
  exact ⟨h.1, h1, h2, h3, h4.1, by omega⟩
theorem digB_eq {xs : List Int} {r : Int} (h : basesB xs = true) : digB xs r = inB r 0 (prodL xs - 1) := by
  rw [digB, h, prodTo_prodL]; rfl
/-- one round of the loop over the bases -/
theorem mix_round {xs : List Int} {k : Nat} {q r : Int} (hall : allBases xs = true) (hle : prodL xs ≤ 1000000) (hk : k < xs.length) (h0 : 0 ≤ q) (h1 : q < prodL (xs.drop k)) (hd : (mixL xs r).drop k = mixL (xs.drop k) q) :
    2 ≤ xs[k] ∧ xs[k] ≤ 12 ∧ prodL (xs.drop k) / xs[k] = prodL (xs.drop (k + 1)) ∧ 1 ≤ prodL (xs.drop (k + 1)) ∧ prodL (xs.drop (k + 1)) ≤ 1000000 ∧ prodL (xs.drop k) ≤ 1000000 ∧
    0 ≤ q / prodL (xs.drop (k + 1)) ∧ q / prodL (xs.drop (k + 1)) ≤ 1000000 ∧ 0 ≤ q % prodL (xs.drop (k + 1)) ∧ q % prodL (xs.drop (k + 1)) < prodL (xs.drop (k + 1)) ∧
    (mixL xs r).getD k 0 = q / prodL (xs.drop (k + 1)) ∧
    (mixL xs r).drop (k + 1) = mixL (xs.drop (k + 1)) (turnIf (q / prodL (xs.drop (k + 1))) (prodL (xs.drop (k + 1))) (q % prodL (xs.drop (k + 1)))) := by
  have hb := base_range hall hk
  rw [getD_at hk] at hb
  have ho := ones_of_bases hall
  have hp := prodL_pos (ones_drop ho (k + 1))
  have hp1 := prodL_drop_le ho (k + 1)
  have hp2 := prodL_drop_le ho k
  have hpd := prodL_drop hk
  rw [mixL_drop hk] at hd
  have hkl : k < (mixL xs r).length := by rw [mixL_length]; exact hk
  rw [List.drop_eq_getElem_cons hkl] at hd
  injection hd with hd1 hd2
  refine ⟨hb.1, hb.2, ?_, hp, by omega, by omega, Int.ediv_nonneg h0 (by omega), Int.le_trans (Int.ediv_le_self _ h0) (by omega), Int.emod_nonneg _ (by omega), Int.emod_lt_of_pos _ (by omega), ?_, hd2⟩
  · rw [hpd, Int.mul_ediv_cancel_left _ (by omega)]
  · rw [← hd1]; simp [List.getD_eq_getElem?_getD, hkl]
end Go.Proofs.Ytkphbelgamfmnaa
