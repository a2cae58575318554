/- Contracts: isGreater, countRelated at isGreater, raInversions, and both InversionsOf functions. Conditions: the slice reads as a list of at most 2^20 numbers. -/
import Derived.Test.YtkphbelgamfmnaaPerm1
import Derived.Test.YtkphbelgamfmnaaSits
namespace Go.Proofs.Ytkphbelgamfmnaa
open Go.RowKit
set_option linter.unusedVariables false

theorem one_cell1 (k : IntKind) (x : Int) : ∀ u ∈ [Value.int k x], u.oneCell' = true := by
  intro u hu
  simp at hu
  subst hu
  rfl
theorem ret_sb {u : Value} {b b' : Bool} (h : b = b') : Ending.returned (.tuple #[u, .bool b]) = .returned (.tuple #[u, .bool b']) := by rw [h]
theorem ret_nb {n n' : Int} {b b' : Bool} (hn : n = n') (h : b = b') : Ending.returned (.tuple #[.int .i64 n, .bool b]) = .returned (.tuple #[.int .i64 n', .bool b']) := by rw [h, hn]

/-- the inversions of a permutation, nothing of another list -/
def invRes (xs : List Int) : List Int := if permB xs = true then invsTo xs xs.length else []
theorem invRes_yes {xs : List Int} (h : permB xs = true) : invRes xs = invsTo xs xs.length := by unfold invRes; rw [if_pos h]
theorem invRes_no {xs : List Int} (h : permB xs = false) : invRes xs = [] := by unfold invRes; rw [if_neg (by rw [h]; simp)]
theorem bound_InversionsOf (xs : List Int) : (invRes xs).length ≤ 1048576 := by
  by_cases h : permB xs = true
  · rw [invRes_yes h, invsTo_length]; have := permB_len h; omega
  · rw [invRes_no (by simpa using h)]; simp
end Go.Proofs.Ytkphbelgamfmnaa
