/- Contracts: both PermutationRank functions. Conditions: the slice reads as a list of at most 2^20 numbers. -/
import Derived.Test.YteimfdpkodcfbaaBs2
import Derived.Test.YteimfdpkodcfbaaBs1
namespace Go.Proofs.Yteimfdpkodcfbaa
open Go.RowKit
set_option linter.unusedVariables false

theorem ret_nb2 {n n' : Int} {b b' : Bool} (hn : n = n') (h : b = b') : Ending.returned (.tuple #[.int .i64 n, .bool b]) = .returned (.tuple #[.int .i64 n', .bool b']) := by rw [h, hn]
def rankPRes (xs : List Int) : Int := if permB xs = true then (rankR xs : Int) else 0
theorem rankPRes_yes {xs : List Int} (h : permB xs = true) : rankPRes xs = rankR xs := by unfold rankPRes; rw [if_pos h]
theorem rankPRes_no {xs : List Int} (h : permB xs = false) : rankPRes xs = 0 := by unfold rankPRes; rw [if_neg (by rw [h]; simp)]

def hornerTo (xs : List Int) : Nat → Nat
  | 0 => 0
  | k + 1 => hornerTo xs k * (xs.length - k) + countLt (xs.drop (k + 1)) (xs.getD k 0)
theorem horner_inv (xs : List Int) (k : Nat) (h : k ≤ xs.length) : hornerTo xs k * fact (xs.length - k) + rankR (xs.drop k) = rankR xs := by
  induction k with
  | zero => simp [hornerTo]
  | succ k ih =>
    have h1 := ih (by omega)
    have hk : k < xs.length := by omega
    rw [List.drop_eq_getElem_cons hk, rankR, countLt_cons, List.length_drop] at h1
    rw [hornerTo, getD_at hk]
    have e1 : xs.length - k = (xs.length - (k + 1)) + 1 := by omega
    rw [e1] at h1 ⊢
    rw [fact] at h1
    rw [Nat.add_mul, Nat.mul_assoc]
    have e2 : xs.length - (k + 1) + 1 = xs.length - (k + 1) + 1 := rfl
    omega
theorem horner_le {xs : List Int} (k : Nat) (h : k ≤ xs.length) (hl : xs.length ≤ 12) : hornerTo xs k ≤ 479001600 := by
  have h1 := horner_inv xs k h
  have h2 := rankR_lt xs
  have h3 := fact_le xs.length (by omega)
  have h4 := fact_pos (xs.length - k) (by omega)
  have h5 : hornerTo xs k * 1 ≤ hornerTo xs k * fact (xs.length - k) := Nat.mul_le_mul_left _ h4
  omega
theorem horner_end (xs : List Int) : hornerTo xs xs.length = rankR xs := by
  have := horner_inv xs xs.length (Nat.le_refl _)
  simpa [rankR, fact] using this

end Go.Proofs.Yteimfdpkodcfbaa
