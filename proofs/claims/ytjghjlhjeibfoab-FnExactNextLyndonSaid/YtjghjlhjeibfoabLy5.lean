/- Contracts of the exported functions on words and of their models: IsWord, RotateWord, LeastRotation, RootLength, IsNecklace, IsLyndon. Conditions: slices that are not nil and read as lists of at most 2^20 numbers. -/
import Derived.Test.YtjghjlhjeibfoabLy4
namespace Go.Proofs.Ytjghjlhjeibfoab
open Go.RowKit
set_option linter.unusedVariables false
set_option maxRecDepth 4000

/-- what a function answers at a list that is no word: d -/
def atW {T : Type} (xs : List Int) (d r : T) : T := if lyW xs = true then r else d
theorem atW_yes {T : Type} {xs : List Int} {d r : T} (h : lyW xs = true) : atW xs d r = r := by unfold atW; rw [if_pos h]
theorem atW_no {T : Type} {xs : List Int} {d r : T} (h : lyW xs = false) : atW xs d r = d := by unfold atW; rw [if_neg (by rw [h]; simp)]
def rwB (xs : List Int) (r : Int) : Bool := lyW xs && inB r (-1000) 1000
def rwRes (xs : List Int) (r : Int) : List Int := if rwB xs r = true then arL xs (r.tmod (xs.length : Int) + (xs.length : Int)).toNat xs.length else []
theorem rwRes_yes {xs : List Int} {r : Int} (h : rwB xs r = true) : rwRes xs r = arL xs (r.tmod (xs.length : Int) + (xs.length : Int)).toNat xs.length := by unfold rwRes; rw [if_pos h]
theorem rwRes_no {xs : List Int} {r : Int} (h : rwB xs r = false) : rwRes xs r = [] := by unfold rwRes; rw [if_neg (by rw [h]; simp)]
theorem bound_RotateWord (xs : List Int) (r : Int) : (rwRes xs r).length ≤ 1048576 := by
  cases h : rwB xs r with
  | false => rw [rwRes_no h]; simp
  | true =>
    rw [rwRes_yes h, arL_len]
    simp only [rwB, Bool.and_eq_true] at h
    have := (lyW_small h.1).1.2
    omega
theorem tmod_between (r : Int) {n : Nat} (h : 1 ≤ n) : -(n : Int) < r.tmod (n : Int) ∧ r.tmod (n : Int) < (n : Int) := by
  have h1 := Int.tmod_lt_of_pos r (show (0 : Int) < (n : Int) by omega)
  refine ⟨?_, h1⟩
  rcases Int.le_total 0 r with h2 | h2
  · have := Int.tmod_nonneg (n : Int) h2; omega
  · have h3 := Int.neg_tmod r (n : Int)
    have h4 := Int.tmod_lt_of_pos (-r) (show (0 : Int) < (n : Int) by omega)
    omega
def lrRes (xs : List Int) : List Int := atW xs [] (arL xs (leastL xs) xs.length)
theorem bound_LeastRotation (xs : List Int) : (lrRes xs).length ≤ 1048576 := by
  unfold lrRes
  cases h : lyW xs with
  | false => rw [atW_no h]; simp
  | true =>
    rw [atW_yes h, arL_len]
    have := (lyW_small h).1.2
    omega
end Go.Proofs.Ytjghjlhjeibfoab
