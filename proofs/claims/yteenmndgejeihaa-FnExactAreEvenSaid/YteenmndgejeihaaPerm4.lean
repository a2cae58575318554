/- Contracts: spec.InversionsOf, raInverse and both InverseOf functions. Conditions: the slice reads as a list of at most 2^20 numbers. -/
import Derived.Test.YteenmndgejeihaaPerm3
namespace Go.Proofs.Yteenmndgejeihaa
open Go.RowKit
set_option linter.unusedVariables false


/-- the inverse as far as the first k elements tell it -/
def inverseTo (xs : List Int) : Nat → List Int
  | 0 => List.replicate xs.length 0
  | k + 1 => (inverseTo xs k).set (xs.getD k 0).toNat k
theorem inverseTo_length (xs : List Int) (k : Nat) : (inverseTo xs k).length = xs.length := by
  induction k with
  | zero => simp [inverseTo]
  | succ k ih => rw [inverseTo, List.length_set, ih]
def inverseRes (xs : List Int) : List Int := if permB xs = true then inverseTo xs xs.length else []
theorem inverseRes_yes {xs : List Int} (h : permB xs = true) : inverseRes xs = inverseTo xs xs.length := by unfold inverseRes; rw [if_pos h]
theorem inverseRes_no {xs : List Int} (h : permB xs = false) : inverseRes xs = [] := by unfold inverseRes; rw [if_neg (by rw [h]; simp)]
theorem bound_InverseOf (xs : List Int) : (inverseRes xs).length ≤ 1048576 := by
  by_cases h : permB xs = true
  · rw [inverseRes_yes h, inverseTo_length]; have := permB_len h; omega
  · rw [inverseRes_no (by simpa using h)]; simp

theorem rowIs_setD {w : World} {g n : Nat} {xs : List Int} (x : Nat) (u : Int) (hx : x < n) (hl : xs.length = n) (h : w.rowIs g 3 n (fun i => .int .i64 (xs.getD i 0))) :
    (w.setCell ⟨g, x, none⟩ (.int .i64 u)).rowIs g 3 n (fun i => .int .i64 ((xs.set x u).getD i 0)) := by
  refine (h.set x (.int .i64 u)).congr (fun i hi => ?_)
  by_cases e : i = x
  · subst e
    simp [hl, hi]
  · rw [if_neg e]
    simp [List.getD_eq_getElem?_getD, List.getElem?_set_ne (fun h => e h.symm)]

end Go.Proofs.Yteenmndgejeihaa
