/- Slices of slices of ints that read as lists of lists, and what append does to them. No conditions. -/
import Derived.Test.YtkphbelgamfmnaaApp
namespace Go.Proofs.Ytkphbelgamfmnaa
open Go.RowKit
set_option linter.unusedVariables false

theorem Try.infoL : (Try.prog.info? 22).map (fun i => (i.zero, i.size, i.bytes)) = some (some (.slice none 0 0), 1, 24) := by kernel_rfl

/-- v is a slice of slices, its own row from block base on, whose elements are owned slices that read as L. -/
def Lists (w : World) (base : Nat) (v : Value) (L : List (List Int)) : Prop :=
  ∃ vs : List Value, vs.length = L.length ∧ w.ownsRow base 22 1 v L.length vs ∧ ∀ i (h1 : i < L.length) (h2 : i < vs.length), Own w base vs[i] L[i]

theorem ownsRow_below {w w' : World} {base : Nat} {e : TypeId} {size : Nat} {v : Value} {n : Nat} {xs : List Value} (h : w.ownsRow base e size v n xs) (hb : Below w.heap.size w w') : w'.ownsRow base e size v n xs := by
  refine ⟨h.1, ?_⟩
  rcases h.2 with hn | ⟨g, cap, cur, rfl, hg, hgg, rest⟩
  · exact .inl hn
  · refine .inr ⟨g, cap, cur, rfl, hg, ?_, rest⟩
    rw [hb.block g (Array.getElem?_eq_some_iff.1 hgg).1]; exact hgg
theorem ownsRow_mono {w : World} {base base' : Nat} {e : TypeId} {size : Nat} {v : Value} {n : Nat} {xs : List Value} (h : w.ownsRow base e size v n xs) (hb : base' ≤ base) : w.ownsRow base' e size v n xs := by
  refine ⟨h.1, ?_⟩
  rcases h.2 with hn | ⟨g, cap, cur, rfl, hg, rest⟩
  · exact .inl hn
  · exact .inr ⟨g, cap, cur, rfl, Nat.le_trans hb hg, rest⟩
theorem Lists.below {w w' : World} {base : Nat} {v : Value} {L : List (List Int)} (h : Lists w base v L) (hb : Below w.heap.size w w') : Lists w' base v L := by
  obtain ⟨vs, h1, h2, h3⟩ := h
  exact ⟨vs, h1, ownsRow_below h2 hb, fun i a b => (h3 i a b).below hb⟩
theorem Lists.mono {w : World} {base base' : Nat} {v : Value} {L : List (List Int)} (h : Lists w base v L) (hb : base' ≤ base) : Lists w base' v L := by
  obtain ⟨vs, h1, h2, h3⟩ := h
  exact ⟨vs, h1, ownsRow_mono h2 hb, fun i a b => (h3 i a b).mono hb⟩
theorem Lists.nil (w : World) (base : Nat) : Lists w base (.slice none 0 0) [] := ⟨[], rfl, World.ownsRow_nil _ _ _ _, fun i h => absurd h (by simp)⟩

/-- The shape of such a slice: nil and empty, or a row each of whose cells holds an owned slice. -/
theorem Lists.form {w : World} {base : Nat} {v : Value} {L : List (List Int)} (h : Lists w base v L) :
    (v = .slice none 0 0 ∧ L = []) ∨ ∃ g cap, v = .slice (some ⟨g, 0, none⟩) L.length cap ∧ base ≤ g ∧ g < w.heap.size ∧ L.length ≤ cap ∧ cap ≤ 9223372036854775807 ∧
      ∀ i (hi : i < L.length), ∃ u, w.cell? ⟨g, i, none⟩ = some u ∧ Own w base u L[i] := by
  obtain ⟨vs, hl, h2, h3⟩ := h
  have h2' := h2
  rcases h2.2 with ⟨rfl, hn⟩ | ⟨g, cap, cur, rfl, hg, hgg, h4, h5, h6, h7⟩
  · exact .inl ⟨rfl, List.eq_nil_of_length_eq_zero hn⟩
  · refine .inr ⟨g, cap, rfl, hg, (Array.getElem?_eq_some_iff.1 hgg).1, h4, by unfold maxLen at h5; omega, fun i hi => ?_⟩
    have hi2 : i < vs.length := by omega
    refine ⟨vs[i], ?_, h3 i hi hi2⟩
    have := World.ownsRow.cellAt h2' i (by omega)
    rw [this, List.getElem?_eq_getElem hi2]

/-- One slice more at the end. -/
theorem Lists.snoc {w w' : World} {base : Nat} {v v' u : Value} {L : List (List Int)} {l : List Int} (h : Lists w base v L) (hu : Own w base u l) (hg : w.grownBy w' v.ownBlock)
    (hrow : ∀ vs : List Value, vs.length = L.length → w.ownsRow base 22 1 v L.length vs → w'.ownsRow base 22 1 v' (L.length + 1) (vs ++ [u]))
    (hne : ∀ x : Value, ∀ xs : List Int, Own w base x xs → Own w' base x xs) : Lists w' base v' (L ++ [l]) := by
  obtain ⟨vs, hl, h2, h3⟩ := h
  refine ⟨vs ++ [u], by simp [hl], by rw [List.length_append]; exact hrow vs hl h2, fun i a b => ?_⟩
  by_cases hi : i < L.length
  · rw [List.getElem_append_left (by omega), List.getElem_append_left hi]
    exact hne _ _ (h3 i hi (by omega))
  · have e1 : i = vs.length := by simp at b; simp at a; omega
    have e2 : i = L.length := by omega
    rw [List.getElem_append_right (by omega), List.getElem_append_right (by omega)]
    simp only [e1, Nat.sub_self, hl]
    simpa using hne _ _ hu

/-- An owned row of ints stays as it was while a row of another element type grows. -/
theorem Own.kept_type {w w' : World} {base b0 : Nat} {x v : Value} {xs : List Int} {n : Nat} {vs : List Value} {T : TypeId} (h : Own w base x xs) (hT : T ≠ 3) (hv : w.ownsRow b0 T 1 v n vs) (hg : w.grownBy w' v.ownBlock) : Own w' base x xs := by
  refine Own.kept h hg ?_
  rcases h.2 with ⟨rfl, _⟩ | ⟨g, cap, cur, rfl, _, hgg, _⟩
  · exact .inl rfl
  · right
    rcases hv.2 with ⟨rfl, _⟩ | ⟨g', cap', cur', rfl, _, hgg', _⟩
    · simp [Value.ownBlock]
    · simp only [Value.ownBlock, ne_eq, Option.some.injEq]
      intro e
      rw [e, hgg'] at hgg
      simp at hgg
      exact hT hgg.2
end Go.Proofs.Ytkphbelgamfmnaa
