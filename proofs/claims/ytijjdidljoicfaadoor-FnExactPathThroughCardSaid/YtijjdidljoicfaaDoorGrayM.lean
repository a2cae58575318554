/- The mathematics of words of bits: the reflected list and its ranks. No conditions. -/
import Derived.Test.YtijjdidljoicfaaDoorListMath
namespace Go.Proofs.YtijjdidljoicfaaDoor
set_option linter.unusedVariables false

/-- the word with the index r -/
def gray (r : Nat) : Nat := r ^^^ r / 2
def grayL (n : Nat) : List Int := (List.range (2 ^ n)).map (fun r : Nat => (gray r : Int))
theorem grayL_length (n : Nat) : (grayL n).length = 2 ^ n := by simp [grayL]
theorem grayL_getD {n i : Nat} (h : i < 2 ^ n) : (grayL n).getD i 0 = gray i := by simp [grayL, h]
set_option maxRecDepth 100000 in
theorem gray_mirror : ∀ m, m < 10 → ∀ r, r < 2 ^ m → gray (2 ^ (m + 1) - 1 - r) = gray r + 2 ^ m := by decide +kernel
set_option maxRecDepth 100000 in
theorem gray_lt : ∀ m, m < 11 → ∀ r, r < 2 ^ m → gray r < 2 ^ m := by decide +kernel
/-- the exclusive or of w and its right shifts by less than k -/
def rkTo (w : Nat) : Nat → Nat
  | 0 => 0
  | k + 1 => rkTo w k ^^^ w / 2 ^ k
set_option maxRecDepth 100000 in
theorem rk_gray : ∀ n, n < 11 → ∀ r, r < 2 ^ n → rkTo (gray r) n = r := by decide +kernel
set_option maxRecDepth 100000 in
theorem gray_rk : ∀ n, n < 11 → ∀ w, w < 2 ^ n → gray (rkTo w n) = w ∧ rkTo w n < 2 ^ n := by decide +kernel
theorem pow_le_1024 : ∀ n, n < 11 → 2 ^ n ≤ 1024 := by decide
theorem gray_up {m j : Nat} (hm : m < 10) (hj : j < 2 ^ m) : gray (2 ^ m + j) = gray (2 ^ m - 1 - j) + 2 ^ m := by
  have h := gray_mirror m hm (2 ^ m - 1 - j) (by omega)
  have e : 2 ^ (m + 1) - 1 - (2 ^ m - 1 - j) = 2 ^ m + j := by rw [Nat.pow_succ]; omega
  rwa [e] at h

/-- the first index at which a list has x, or -1 -/
def placeIx (xs : List Int) (x : Int) : Nat → Int
  | 0 => -1
  | k + 1 => if placeIx xs x k ≥ 0 then placeIx xs x k else if xs.getD k 0 = x then (k : Int) else -1
end Go.Proofs.YtijjdidljoicfaaDoor
