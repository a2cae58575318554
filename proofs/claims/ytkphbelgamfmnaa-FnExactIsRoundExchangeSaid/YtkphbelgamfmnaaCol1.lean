/- Contract: raColex, all combinations in colexicographic order. Conditions: n at most 12, k at most 12. -/
import Derived.Test.YtkphbelgamfmnaaCAt1
import Derived.Test.YtkphbelgamfmnaaColM
namespace Go.Proofs.Ytkphbelgamfmnaa
open Go.RowKit
set_option linter.unusedVariables false

theorem colL_bound (n : Nat) (hn : n ≤ 12) (k : Nat) (hk : k ≤ 12) : (colL n k).length ≤ 2000 := by
  rw [colL_len n k]
  exact binom_sum _ (by omega) _ (by omega)
end Go.Proofs.Ytkphbelgamfmnaa
