/- Slices of slices of ints that came in, as lists of lists; contracts: szIntS, szIntSS. Conditions: the slices read as lists (of lists). -/
import Derived.Test.YtaajfpjekfmddabBs1
import Derived.Deep.Matrix
namespace Go.Proofs.Ytaajfpjekfmddab
open Go.RowKit
set_option linter.unusedVariables false

/-- v is a slice whose elements are slices that read as the lists of L; they may share memory. -/
def ReadsL (w : World) (v : Value) (L : List (List Int)) : Prop :=
  ∃ ao c, v = .slice ao L.length c ∧ L.length ≤ c ∧ c ≤ maxLen ∧
    (L = [] ∨ ∃ b off, ao = some ⟨b, off, none⟩ ∧ b < w.heap.size ∧ ∀ i (hi : i < L.length), ∃ u, w.cell? ⟨b, off + i, none⟩ = some u ∧ Reads w u L[i])
theorem ReadsL.below {w w' : World} {v : Value} {L : List (List Int)} (h : ReadsL w v L) (hb : Below w.heap.size w w') : ReadsL w' v L := by
  obtain ⟨ao, c, rfl, h1, h2, h⟩ := h
  refine ⟨ao, c, rfl, h1, h2, ?_⟩
  rcases h with h | ⟨b, off, rfl, h3, h4⟩
  · exact .inl h
  · refine .inr ⟨b, off, rfl, Nat.lt_of_lt_of_le h3 hb.size, fun i hi => ?_⟩
    obtain ⟨u, hu, hr⟩ := h4 i hi
    exact ⟨u, (hb.cell (by exact h3)).trans hu, hr.below hb⟩
end Go.Proofs.Ytaajfpjekfmddab
