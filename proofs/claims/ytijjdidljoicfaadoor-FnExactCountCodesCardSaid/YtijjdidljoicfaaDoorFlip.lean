/- Contracts: both FlipBits functions. Conditions: the slice reads as a list of at most 2^20 numbers. -/
import Derived.Test.YtijjdidljoicfaaDoorGray1
import Derived.Test.YtijjdidljoicfaaDoorTake
import Derived.Test.YtijjdidljoicfaaDoorRow
namespace Go.Proofs.YtijjdidljoicfaaDoor
open Go.RowKit
set_option linter.unusedVariables false

def flipL (xs : List Int) (m : Int) : List Int := xs.map (fun x => bits .xor .i64 x m)
theorem flipL_length (xs : List Int) (m : Int) : (flipL xs m).length = xs.length := by simp [flipL]
theorem flipL_getD {xs : List Int} {m : Int} {k : Nat} (h : k < xs.length) : (flipL xs m).getD k 0 = bits .xor .i64 xs[k] m := by simp [flipL, h]
theorem flipL_take {xs : List Int} {m : Int} {k : Nat} (h : k < xs.length) : (flipL xs m).take (k + 1) = (flipL xs m).take k ++ [bits .xor .i64 xs[k] m] := by
  rw [List.take_succ_eq_append_getElem (by rw [flipL_length]; exact h)]
  simp [flipL]
def flB (n : Int) (xs : List Int) (m : Int) : Bool := wordsB n xs && wordB n m
def flRes (n : Int) (xs : List Int) (m : Int) : List Int := if flB n xs m = true then flipL xs m else []
theorem flRes_yes {n : Int} {xs : List Int} {m : Int} (h : flB n xs m = true) : flRes n xs m = flipL xs m := by unfold flRes; rw [if_pos h]
theorem flRes_no {n : Int} {xs : List Int} {m : Int} (h : flB n xs m = false) : flRes n xs m = [] := by unfold flRes; rw [if_neg (by rw [h]; simp)]
theorem bound_FlipBits (n : Int) (xs : List Int) (m : Int) : (flRes n xs m).length ≤ 1048576 := by
  cases h : flB n xs m with
  | false => rw [flRes_no h]; simp
  | true =>
    rw [flRes_yes h, flipL_length]
    simp only [flB, Bool.and_eq_true] at h
    have := (wordsB_iff.1 h.1).2.1
    omega
end Go.Proofs.YtijjdidljoicfaaDoor
