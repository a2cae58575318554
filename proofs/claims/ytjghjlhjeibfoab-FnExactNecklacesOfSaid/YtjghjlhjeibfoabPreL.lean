/- Plain facts on marks in a list of lists. No conditions. -/
import Derived.Test.YtjghjlhjeibfoabSS2
import Derived.Test.YtjghjlhjeibfoabSS3
namespace Go.Proofs.Ytjghjlhjeibfoab
open Go.RowKit
set_option linter.unusedVariables false

theorem preLen_same {L M : List (List Int)} (hl : M.length = L.length) (h : ∀ i (a : i < M.length) (b : i < L.length), M[i].length = L[i].length) : ∀ i, preLen M i = preLen L i
  | 0 => rfl
  | i + 1 => by
    rw [preLen, preLen, preLen_same hl h i]
    by_cases hi : i < L.length
    · have hi' : i < M.length := by omega
      have := h i hi' hi
      simp [List.getD_eq_getElem?_getD, hi, hi', this]
    · have hi' : ¬ i < M.length := by omega
      simp [List.getD_eq_getElem?_getD, hi, hi']
theorem preLen_le {L : List (List Int)} {c : Nat} (h : ∀ l ∈ L, l.length ≤ c) : ∀ i, preLen L i ≤ c * i
  | 0 => Nat.le_refl _
  | i + 1 => by
    have ih := preLen_le h i
    have hd : (L.getD i []).length ≤ c := by
      by_cases hi : i < L.length
      · simpa [List.getD_eq_getElem?_getD, hi] using h _ (List.getElem_mem hi)
      · simp [List.getD_eq_getElem?_getD, hi]
    rw [preLen, Nat.mul_succ]; omega
theorem marked_of {L M : List (List Int)} {m : Int} (hl : M.length = L.length) (h : ∀ i (a : i < M.length) (b : i < L.length), M[i] = marks (m + preLen L i) L[i].length) : Marked m M ∧ preLen M M.length = preLen L L.length := by
  have hs : ∀ i (a : i < M.length) (b : i < L.length), M[i].length = L[i].length := fun i a b => by rw [h i a b, marks_length]
  have hp := preLen_same hl hs
  refine ⟨fun i a => ?_, by rw [hp, hl]⟩
  rw [hp, hs i a (by omega)]
  exact h i a (by omega)
end Go.Proofs.Ytjghjlhjeibfoab
