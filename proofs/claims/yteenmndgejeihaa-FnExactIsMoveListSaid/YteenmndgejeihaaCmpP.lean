/- Plain fact: a row is no longer than all rows together. -/
import Derived.Test.YteenmndgejeihaaBs4
namespace Go.Proofs.Yteenmndgejeihaa
open Go.RowKit

theorem preLen_row {L : List (List Int)} {i : Nat} (hi : i < L.length) : L[i].length ≤ preLen L L.length := by
  have h1 := preLen_mono L (show i + 1 ≤ L.length from hi)
  have h2 : preLen L (i + 1) = preLen L i + L[i].length := by rw [preLen]; simp [List.getD_eq_getElem?_getD, hi]
  omega
end Go.Proofs.Yteenmndgejeihaa
