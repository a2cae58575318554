/- Contracts: chBits, spec.BitsOf, chAreBits and spec.FromBits. Conditions: the slice reads as a list of at most 2^20 numbers. -/
import Derived.Test.YtkphbelgamfmnaaCh2
import Derived.Test.YtkphbelgamfmnaaDig1
namespace Go.Proofs.Ytkphbelgamfmnaa
open Go.RowKit
set_option linter.unusedVariables false

/-- the bits of a combination -/
def bitAt (xs : List Int) (i : Nat) : Int := if hasB xs (i : Int) = true then 1 else 0
def bitsL (n : Nat) (xs : List Int) : List Int := (List.range n).map (bitAt xs)
theorem bitsL_length (n : Nat) (xs : List Int) : (bitsL n xs).length = n := by simp [bitsL]
theorem bitsL_getD {n i : Nat} (xs : List Int) (h : i < n) : (bitsL n xs).getD i 0 = bitAt xs i := by simp [bitsL, h]
theorem ret_sb4 {u : Value} {b b' : Bool} (h : b = b') : Ending.returned (.tuple #[u, .bool b]) = .returned (.tuple #[u, .bool b']) := by rw [h]
def boRes (n : Int) (xs : List Int) : List Int := if combB n xs = true then bitsL n.toNat xs else []
theorem bound_BitsOf (n : Int) (xs : List Int) : (boRes n xs).length ≤ 1048576 := by
  unfold boRes; split
  · rename_i h
    have := combB_elem h
    rw [bitsL_length]; omega
  · simp
/-- are xs bits -/
def isBits (xs : List Int) : Bool := decide (xs.length ≤ 12) && allTo xs.length (fun i => inB (xs.getD i 0) 0 1)
/-- the combination whose bits are given -/
def fromL (xs : List Int) (k : Nat) : List Int := ((List.range k).filter (fun i => xs.getD i 0 == 1)).map (fun i : Nat => (i : Int))
theorem fromL_yes {xs : List Int} {k : Nat} (h : (xs.getD k 0 == 1) = true) : fromL xs (k + 1) = fromL xs k ++ [(k : Int)] := by
  unfold fromL
  rw [List.range_succ, List.filter_append, List.map_append, List.filter_cons_of_pos (by exact h)]
  rfl
theorem fromL_no {xs : List Int} {k : Nat} (h : (xs.getD k 0 == 1) = false) : fromL xs (k + 1) = fromL xs k := by
  unfold fromL
  rw [List.range_succ, List.filter_append, List.map_append, List.filter_cons_of_neg (by simpa using h)]
  simp
theorem fromL_len (xs : List Int) (k : Nat) : (fromL xs k).length ≤ k := by
  unfold fromL
  rw [List.length_map]
  have := List.length_filter_le (fun i => xs.getD i 0 == 1) (List.range k)
  simpa using this
def fbRes (xs : List Int) : List Int := if isBits xs = true then fromL xs xs.length else []
theorem bound_FromBits (xs : List Int) : (fbRes xs).length ≤ 1048576 := by
  unfold fbRes; split
  · rename_i h
    rw [isBits, Bool.and_eq_true, decide_eq_true_eq] at h
    have := fromL_len xs xs.length
    omega
  · simp
end Go.Proofs.Ytkphbelgamfmnaa
