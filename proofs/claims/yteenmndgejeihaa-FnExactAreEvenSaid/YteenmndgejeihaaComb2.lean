/- Contracts: lastRelatedPair at isAtLeast and impl.IsCombination; the walk of the law FnExactIsCombination. Conditions: the slice reads as a list. -/
import Derived.Test.YteenmndgejeihaaComb1
namespace Go.Proofs.Yteenmndgejeihaa
set_option linter.unusedVariables false
open Go.RowKit

theorem Drew.below {w w' : World} (h : ∃ q, w' = w.drewN q) (B : Nat) : Below B w w' := by
  obtain ⟨q, rfl⟩ := h
  exact below_drewN (Below.refl _ _) q

theorem Drew.next {w w' : World} (h : ∃ q, w' = w.drewN q) (n : Nat) : ∃ q, w'.drewN n = w.drewN q := by
  obtain ⟨q, rfl⟩ := h
  exact ⟨q + n, World.drewN_drewN _ _ _⟩

end Go.Proofs.Yteenmndgejeihaa
