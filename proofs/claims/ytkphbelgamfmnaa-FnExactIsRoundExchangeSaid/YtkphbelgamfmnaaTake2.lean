/- Contracts: raUpTo, slices.Delete at one element, takeOut. Conditions: the slices read as lists of at most 2^20 numbers; indexes lie within. -/
import Derived.Test.YtkphbelgamfmnaaTake
import Derived.Test.YtkphbelgamfmnaaPerm1
namespace Go.Proofs.Ytkphbelgamfmnaa
open Go.RowKit
set_option linter.unusedVariables false

theorem one_cell (k : IntKind) (x : Int) : ∀ u ∈ [Value.int k x], u.oneCell' = true := by
  intro u hu
  simp at hu
  subst hu
  rfl
theorem Own_cells {w : World} {lo g n c : Nat} {xs : List Int} (h : Own w lo (.slice (some ⟨g, 0, none⟩) n c) xs) :
    n = xs.length ∧ xs.length ≤ c ∧ c ≤ 9223372036854775807 ∧ g < w.heap.size ∧ lo ≤ g ∧ (∀ i (hi : i < xs.length), w.cell? ⟨g, i, none⟩ = some (.int .i64 xs[i])) ∧ ∀ i, w.frozen? ⟨g, i, none⟩ = false := by
  have hn := h.len
  rcases h.form with ⟨h1, h2⟩ | ⟨g', cap, e, hlo, hlt, h1, h2, hc, hf⟩
  · simp at h1
  · simp only [Value.slice.injEq, Option.some.injEq, Addr.mk.injEq, and_true] at e
    obtain ⟨rfl, _, rfl⟩ := e
    unfold maxLen at h2
    exact ⟨hn, h1, by omega, hlt, hlo, fun i hi => by
      have := hc i hi
      rw [Nat.zero_add, getD_at hi] at this
      exact this, hf⟩

end Go.Proofs.Ytkphbelgamfmnaa
