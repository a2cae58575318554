/- Lists of two rows laid by a literal. Conditions: none. -/
import Derived.Test.YtkphbelgamfmnaaCh4
namespace Go.Proofs.Ytkphbelgamfmnaa
open Go.RowKit
set_option linter.unusedVariables false

theorem Lists.slice3 {w : World} {B : Nat} {v : Value} {L : List (List Int)} (h : Lists w B v L) : ∃ ao c, v = .slice ao L.length c := by
  rcases h.form with ⟨rfl, rfl⟩ | ⟨g, cap, rfl, _⟩
  · exact ⟨none, 0, rfl⟩
  · exact ⟨_, _, rfl⟩
theorem Lists_lit3 {w : World} {B : Nat} {u v : Value} {a b : List Int} (h : Own w B u a) (h' : Own w B v b) (hB : B ≤ w.heap.size) : Lists (w.alloc (.cells #[u, v] 22)) B (.slice (some ⟨w.heap.size, 0, none⟩) 2 2) [a, b] := by
  refine ⟨[u, v], rfl, ownsRow_mono (World.ownsRow_lit w #[u, v] 2 (Nat.le_refl _) (by unfold maxLen; omega) rfl) hB, fun i h1 h2 => ?_⟩
  have hbel : Below w.heap.size w (w.alloc (.cells #[u, v] 22)) := (Below.refl _ _).alloc (Nat.le_refl _) _
  have h12 : i = 0 ∨ i = 1 := by simp at h2; omega
  rcases h12 with rfl | rfl
  · exact h.below hbel
  · exact h'.below hbel
end Go.Proofs.Ytkphbelgamfmnaa
