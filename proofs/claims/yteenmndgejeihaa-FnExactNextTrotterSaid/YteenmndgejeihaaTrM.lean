/- Plain facts: Trotter's list. -/
import Derived.Test.YteenmndgejeihaaBs3
namespace Go.Proofs.Yteenmndgejeihaa
open Go.RowKit
set_option linter.unusedVariables false

/-- the place of the greatest one in the permutation with an index -/
def trAt (n r : Nat) : Nat := if r / (n + 1) % 2 = 0 then n - r % (n + 1) else r % (n + 1)
/-- the permutation with an index in Trotter's list -/
def trL : Nat → Nat → List Int
  | 0, _ => []
  | n + 1, r => (trL n (r / (n + 1))).take (trAt n r) ++ ((n : Int) :: (trL n (r / (n + 1))).drop (trAt n r))
theorem trAt_le (n r : Nat) : trAt n r ≤ n := by
  have := Nat.mod_lt r (show 0 < n + 1 by omega)
  unfold trAt
  split <;> omega
theorem trL_len : ∀ n r, (trL n r).length = n
  | 0, _ => rfl
  | n + 1, r => by
    have h := trL_len n (r / (n + 1))
    have := trAt_le n r
    rw [trL]
    simp [h]
    omega
end Go.Proofs.Yteenmndgejeihaa
