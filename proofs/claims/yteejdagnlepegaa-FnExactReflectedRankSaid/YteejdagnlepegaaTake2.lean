/- Contracts: raUpTo, slices.Delete at one element, takeOut. Conditions: the slices read as lists of at most 2^20 numbers; indexes lie within. -/
import Derived.Test.YteejdagnlepegaaTake
import Derived.Test.YteejdagnlepegaaPerm1
namespace Go.Proofs.Yteejdagnlepegaa
open Go.RowKit
set_option linter.unusedVariables false

theorem one_cell (k : IntKind) (x : Int) : ∀ u ∈ [Value.int k x], u.oneCell' = true := by
  intro u hu
  simp at hu
  subst hu
  rfl
end Go.Proofs.Yteejdagnlepegaa
