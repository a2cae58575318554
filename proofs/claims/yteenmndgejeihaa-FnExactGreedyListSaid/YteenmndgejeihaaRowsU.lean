/- A slice of slices whose row and whose rows lie apart; appending to it. No conditions. -/
import Derived.Test.YteenmndgejeihaaBs4
namespace Go.Proofs.Yteenmndgejeihaa
open Go.RowKit
set_option linter.unusedVariables false

def slLen2 : Value → Nat
  | .slice _ n _ => n
  | _ => 0
/-- a slice of slices: its own row from b1 on, its rows from b2 on and below H, apart from each other, that read as L -/
def RowsU (w : World) (b1 b2 H : Nat) (v : Value) (L : List (List Int)) : Prop :=
  ∃ vs : List Value, vs.length = L.length ∧ w.ownsRow b1 22 1 v L.length vs ∧ (∀ i (h1 : i < L.length) (h2 : i < vs.length), Own w b2 vs[i] L[i]) ∧
    (∀ i j (h1 : i < vs.length) (h2 : j < vs.length) (g : Nat), i ≠ j → vs[i].ownBlock = some g → vs[j].ownBlock ≠ some g) ∧ ∀ i (h1 : i < vs.length) g, vs[i].ownBlock = some g → g < H
theorem RowsU.listsA {w : World} {b1 b2 H : Nat} {v : Value} {L : List (List Int)} (hb : b2 ≤ b1) (h : RowsU w b1 b2 H v L) : ListsA w b2 v L := by
  obtain ⟨vs, a, b, c, d, _⟩ := h
  exact ⟨vs, a, ownsRow_mono b hb, c, d⟩
theorem RowsU.keep {w w' : World} {b1 b2 H : Nat} {v : Value} {L : List (List Int)} (h : RowsU w b1 b2 H v L) (hb : Below w.heap.size w w') : RowsU w' b1 b2 H v L := by
  obtain ⟨vs, a, b, c, d, e⟩ := h
  exact ⟨vs, a, ownsRow_below b hb, fun i x y => (c i x y).below hb, d, e⟩
theorem RowsU.len {w : World} {b1 b2 H : Nat} {v : Value} {L : List (List Int)} (h : RowsU w b1 b2 H v L) : slLen2 v = L.length := by
  obtain ⟨vs, a, b, _⟩ := h
  rcases b.2 with ⟨rfl, hn⟩ | ⟨g, cap, cur, rfl, _⟩
  · exact hn.symm
  · rfl
theorem RowsU.push {w w' : World} {b1 b2 H : Nat} {v v' u : Value} {L : List (List Int)} {l : List Int} {vs : List Value} (hl : vs.length = L.length) (h2 : w.ownsRow b1 22 1 v L.length vs)
    (h3 : ∀ i (h1 : i < L.length) (h2 : i < vs.length), Own w b2 vs[i] L[i]) (h4 : ∀ i j (h1 : i < vs.length) (h2 : j < vs.length) (g : Nat), i ≠ j → vs[i].ownBlock = some g → vs[j].ownBlock ≠ some g)
    (h5 : ∀ i (h1 : i < vs.length) g, vs[i].ownBlock = some g → g < H) (hu : Own w b2 u l) (hH : ∀ g, u.ownBlock = some g → H ≤ g)
    (hrow : w'.ownsRow b1 22 1 v' (L.length + 1) (vs ++ [u])) (hg : w.grownBy w' v.ownBlock) : RowsU w' b1 b2 w'.heap.size v' (L ++ [l]) := by
  have hk : ∀ x : Value, ∀ xs : List Int, Own w b2 x xs → Own w' b2 x xs := fun x xs hx => Own.kept_type hx (T := 22) (by decide) h2 hg
  have hrows : ∀ i (a : i < (L ++ [l]).length) (b : i < (vs ++ [u]).length), Own w' b2 (vs ++ [u])[i] (L ++ [l])[i] := fun i a b => by
    by_cases hi : i < L.length
    · rw [List.getElem_append_left (by omega), List.getElem_append_left hi]
      exact hk _ _ (h3 i hi (by omega))
    · have e1 : i = vs.length := by simp at b; simp at a; omega
      rw [List.getElem_append_right (by omega), List.getElem_append_right (by omega)]
      simp only [e1, Nat.sub_self, hl]
      simpa using hk _ _ hu
  refine ⟨vs ++ [u], by simp [hl], by rw [List.length_append]; exact hrow, hrows, fun i j a b g hij hi hj => ?_, fun i x g hgb => (World.ownsRow.lt (hrows i (by simp at x ⊢; omega) x) g hgb).2⟩
  simp only [List.length_append, List.length_singleton] at a b
  by_cases h6 : i < vs.length
  · rw [List.getElem_append_left h6] at hi
    by_cases h7 : j < vs.length
    · rw [List.getElem_append_left h7] at hj
      exact h4 i j h6 h7 g hij hi hj
    · rw [List.getElem_append_right (by omega)] at hj
      simp only [show j - vs.length = 0 by omega, List.getElem_cons_zero] at hj
      have := h5 i h6 g hi
      have := hH g hj
      omega
  · rw [List.getElem_append_right (by omega)] at hi
    simp only [show i - vs.length = 0 by omega, List.getElem_cons_zero] at hi
    by_cases h7 : j < vs.length
    · rw [List.getElem_append_left h7] at hj
      have := h5 j h7 g hj
      have := hH g hi
      omega
    · omega
theorem RowsU.stay {w w' : World} {b1 b2 H : Nat} {v : Value} {L : List (List Int)} (h : RowsU w b1 b2 H v L) (h12 : b2 ≤ b1) (hk : ∀ k, b2 ≤ k → k < w.heap.size → w'.heap[k]? = w.heap[k]?) : RowsU w' b1 b2 H v L := by
  obtain ⟨vs, a, b, c, d, e⟩ := h
  exact ⟨vs, a, ownsRow_stay b (fun k h1 h2 => hk k (Nat.le_trans h12 h1) h2), fun i x y => (c i x y).stay hk, d, e⟩
end Go.Proofs.Yteenmndgejeihaa
