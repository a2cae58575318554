/- Contracts: both DeltasOf functions. Conditions: the slice reads as a list of at most 2^20 numbers; the table of math/bits holds what the program's text lays. -/
import Derived.Test.YtijjdidljoicfaaDoorDelt
namespace Go.Proofs.YtijjdidljoicfaaDoor
open Go.RowKit
set_option linter.unusedVariables false

def doB (n : Int) (xs : List Int) : Bool := wordsB n xs && deltasB xs
def doRes (n : Int) (xs : List Int) : List Int := if wordsB n xs = true then deltasR xs else []
theorem doRes_yes {n : Int} {xs : List Int} (h : wordsB n xs = true) : doRes n xs = deltasR xs := by unfold doRes; rw [if_pos h]
theorem doRes_no {n : Int} {xs : List Int} (h : wordsB n xs = false) : doRes n xs = [] := by unfold doRes; rw [if_neg (by rw [h]; simp)]
theorem bound_DeltasOf (n : Int) (xs : List Int) : (doRes n xs).length ≤ 1048576 := by
  cases h : wordsB n xs with
  | false => rw [doRes_no h]; simp
  | true =>
    rw [doRes_yes h]
    have := (wordsB_iff.1 h).2.1
    cases h2 : deltasB xs with
    | false => rw [deltasR_no h2]; simp
    | true => rw [deltasR_yes h2, deltasL_length]; omega
end Go.Proofs.YtijjdidljoicfaaDoor
