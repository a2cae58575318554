/- Contracts: revolvingList and impl.RevolvingList. Conditions: none (of revolvingList: k <= n <= 12). -/
import Derived.Test.YtijjdidljoicfaaJoinL
import Derived.Test.YtijjdidljoicfaaRvr
import Derived.Test.YtijjdidljoicfaaRvA
import Derived.Test.YtijjdidljoicfaaPreL
import Derived.Test.YtijjdidljoicfaaCst
namespace Go.Proofs.Ytijjdidljoicfaa
open Go.RowKit
set_option linter.unusedVariables false

/-- a slice of slices that is not nil, its own row from b on, its rows from b on, apart, none of them nil, that read as L -/
def RowsN (w : World) (b : Nat) (v : Value) (L : List (List Int)) : Prop :=
  ∃ g cap, v = .slice (some ⟨g, 0, none⟩) L.length cap ∧ ∃ vs : List Value, vs.length = L.length ∧ w.ownsRow b 22 1 v L.length vs ∧ (∀ i (h1 : i < L.length) (h2 : i < vs.length), Own w b vs[i] L[i]) ∧
    (∀ i j (h1 : i < vs.length) (h2 : j < vs.length) (g : Nat), i ≠ j → vs[i].ownBlock = some g → vs[j].ownBlock ≠ some g) ∧ ∀ i (h1 : i < vs.length), ∃ q k c, vs[i] = .slice (some ⟨q, 0, none⟩) k c
theorem RowsN.listsA {w : World} {b : Nat} {v : Value} {L : List (List Int)} (h : RowsN w b v L) : ListsA w b v L := by
  obtain ⟨g, cap, _, vs, h1, h2, h3, h4, _⟩ := h
  exact ⟨vs, h1, h2, h3, h4⟩
theorem RowsN.below {w w' : World} {b : Nat} {v : Value} {L : List (List Int)} (h : RowsN w b v L) (hb : Below w.heap.size w w') : RowsN w' b v L := by
  obtain ⟨g, cap, e, vs, h1, h2, h3, h4, h5⟩ := h
  exact ⟨g, cap, e, vs, h1, ownsRow_below h2 hb, fun i x y => (h3 i x y).below hb, h4, h5⟩
theorem RowsN.mono {w : World} {b b' : Nat} {v : Value} {L : List (List Int)} (h : RowsN w b v L) (hb : b' ≤ b) : RowsN w b' v L := by
  obtain ⟨g, cap, e, vs, h1, h2, h3, h4, h5⟩ := h
  exact ⟨g, cap, e, vs, h1, ownsRow_mono h2 hb, fun i x y => (h3 i x y).mono hb, h4, h5⟩
theorem RowsN.one {w : World} {b q k c : Nat} {l : List Int} (h : Own w b (.slice (some ⟨q, 0, none⟩) k c) l) (hb : b ≤ w.heap.size) : RowsN (w.alloc (.cells #[.slice (some ⟨q, 0, none⟩) k c] 22)) b (.slice (some ⟨w.heap.size, 0, none⟩) 1 1) [l] := by
  refine ⟨w.heap.size, 1, rfl, [.slice (some ⟨q, 0, none⟩) k c], rfl, ownsRow_mono (World.ownsRow_lit w #[.slice (some ⟨q, 0, none⟩) k c] 1 (Nat.le_refl _) (by unfold maxLen; omega) rfl) hb, fun i h1 h2 => ?_, fun i j h1 h2 g hij => ?_, fun i h1 => ?_⟩
  · have : i = 0 := by simpa using h2
    subst this
    exact h.below ((Below.refl _ _).alloc (Nat.le_refl _) _)
  · simp at h1 h2; omega
  · have : i = 0 := by simpa using h1
    subst this
    exact ⟨q, k, c, rfl⟩
/-- A row of it is exchanged for a new one. -/
theorem RowsN.put {w w1 : World} {b g m cap q k c i : Nat} {L : List (List Int)} {l : List Int} (h : RowsN w b (.slice (some ⟨g, 0, none⟩) m cap) L) (hb : Below w.heap.size w w1) (hi : i < L.length) (hu : Own w1 b (.slice (some ⟨q, 0, none⟩) k c) l) (hq : w.heap.size ≤ q) :
    RowsN (w1.setCell ⟨g, i, none⟩ (.slice (some ⟨q, 0, none⟩) k c)) b (.slice (some ⟨g, 0, none⟩) m cap) (L.set i l) ∧ w1.grownBy (w1.setCell ⟨g, i, none⟩ (.slice (some ⟨q, 0, none⟩) k c)) (some g) := by
  obtain ⟨g', cap', e, vs, h1, h2, h3, h4, h5⟩ := h
  simp only [Value.slice.injEq, Option.some.injEq, Addr.mk.injEq, and_true] at e
  obtain ⟨rfl, rfl, rfl⟩ := e
  have h2' := ownsRow_below h2 hb
  obtain ⟨h6, h7⟩ := World.ownsRow.stored h2' i (.slice (some ⟨q, 0, none⟩) k c)
  have hk : ∀ x : Value, ∀ xs : List Int, Own w1 b x xs → Own (w1.setCell ⟨g, i, none⟩ (.slice (some ⟨q, 0, none⟩) k c)) b x xs := fun x xs hx => Own.kept_type hx (T := 22) (by decide) h2' h7
  refine ⟨⟨g, cap, by rw [List.length_set], vs.set i (.slice (some ⟨q, 0, none⟩) k c), by simp [h1], by rw [List.length_set]; exact h6, fun j a c => ?_, fun j j' a c z hij hz hz' => ?_, fun j a => ?_⟩, h7⟩
  · rw [List.length_set] at a c
    by_cases e : i = j
    · subst e
      simp only [List.getElem_set_self]
      exact hk _ _ hu
    · rw [List.getElem_set_ne e, List.getElem_set_ne e]
      exact hk _ _ ((h3 j a c).below hb)
  · rw [List.length_set] at a c
    by_cases e : i = j
    · subst e
      rw [List.getElem_set_self] at hz
      rw [List.getElem_set_ne (by omega)] at hz'
      have h8 := (World.ownsRow.lt (h3 j' (by omega) c) z hz').2
      simp only [Value.ownBlock, Option.some.injEq] at hz
      omega
    · rw [List.getElem_set_ne e] at hz
      by_cases e' : i = j'
      · subst e'
        rw [List.getElem_set_self] at hz'
        have h8 := (World.ownsRow.lt (h3 j (by omega) a) z hz).2
        simp only [Value.ownBlock, Option.some.injEq] at hz'
        omega
      · rw [List.getElem_set_ne e'] at hz'
        exact h4 j j' a c z hij hz hz'
  · rw [List.length_set] at a
    by_cases e : i = j
    · subst e
      exact ⟨q, k, c, List.getElem_set_self _⟩
    · rw [List.getElem_set_ne e]
      exact h5 j a
theorem RowsN.row {w : World} {b g m cap i : Nat} {L : List (List Int)} (h : RowsN w b (.slice (some ⟨g, 0, none⟩) m cap) L) (hi : i < L.length) : ∃ q k c, w.cell? ⟨g, i, none⟩ = some (.slice (some ⟨q, 0, none⟩) k c) ∧ Own w b (.slice (some ⟨q, 0, none⟩) k c) L[i] ∧ w.frozen? ⟨g, i, none⟩ = false := by
  obtain ⟨g', cap', e, vs, h1, h2, h3, h4, h5⟩ := h
  simp only [Value.slice.injEq, Option.some.injEq, Addr.mk.injEq, and_true] at e
  obtain ⟨rfl, rfl, rfl⟩ := e
  have hi2 : i < vs.length := by omega
  obtain ⟨q, k, c, hq⟩ := h5 i hi2
  refine ⟨q, k, c, ?_, by rw [← hq]; exact h3 i hi hi2, World.ownsRow.frozenAt h2 i⟩
  have := World.ownsRow.cellAt h2 i (by omega)
  rw [this, List.getElem?_eq_getElem hi2, hq]
/-- Behind slices.Reverse. -/
theorem RowsN.reversed {w w' : World} {b : Nat} {v : Value} {L : List (List Int)} {vs : List Value} (h1 : vs.length = L.length) (h2 : w.ownsRow b 22 1 v L.length vs) (h3 : ∀ i (h1 : i < L.length) (h2 : i < vs.length), Own w b vs[i] L[i])
    (h4 : ∀ i j (h1 : i < vs.length) (h2 : j < vs.length) (g : Nat), i ≠ j → vs[i].ownBlock = some g → vs[j].ownBlock ≠ some g) (h5 : ∀ i (h1 : i < vs.length), ∃ q k c, vs[i] = .slice (some ⟨q, 0, none⟩) k c)
    (hv : ∃ g cap, v = .slice (some ⟨g, 0, none⟩) L.length cap) (hr : w'.ownsRow b 22 1 v L.length vs.reverse) (hg : w.grownBy w' v.ownBlock) : RowsN w' b v L.reverse := by
  obtain ⟨g, cap, e⟩ := hv
  have hk : ∀ x : Value, ∀ xs : List Int, Own w b x xs → Own w' b x xs := fun x xs hx => Own.kept_type hx (T := 22) (by decide) h2 hg
  refine ⟨g, cap, by rw [List.length_reverse]; exact e, vs.reverse, by simp [h1], by rw [List.length_reverse]; exact hr, fun i a c => ?_, fun i j a c z hij => ?_, fun i a => ?_⟩
  · rw [List.getElem_reverse, List.getElem_reverse]
    have := h3 (L.length - 1 - i) (by simp at a; omega) (by simp at a; omega)
    have e2 : vs.length - 1 - i = L.length - 1 - i := by omega
    simp only [e2]
    exact hk _ _ this
  · rw [List.getElem_reverse, List.getElem_reverse]
    simp only [List.length_reverse] at a c
    exact h4 _ _ _ _ z (by omega)
  · rw [List.getElem_reverse]
    exact h5 _ _
theorem SitsRow.of_own {w : World} {b g m cap : Nat} {us : List Value} (h : w.ownsRow b 22 1 (.slice (some ⟨g, 0, none⟩) m cap) m us) : SitsRow w (.slice (some ⟨g, 0, none⟩) m cap) us := by
  have hl : us.length = m := by have := h.1; omega
  have h' := h
  rcases h.2 with ⟨h0, _⟩ | ⟨g', cap', cur, e, hg, hgg, h4, h5, h6, h7⟩
  · cases h0
  · simp only [Value.slice.injEq, Option.some.injEq, Addr.mk.injEq, and_true, true_and] at e
    obtain ⟨rfl, rfl⟩ := e
    refine ⟨g, 0, cap, by rw [hl], by omega, by unfold maxLen at h5; omega, (Array.getElem?_eq_some_iff.1 hgg).1, fun i hi => ?_⟩
    rw [Nat.zero_add, World.ownsRow.cellAt h' i (by omega), List.getElem?_eq_getElem hi]
theorem SitsV.two {w : World} {u1 u2 : Value} {a b : List Value} (h1 : SitsRow w u1 a) (h2 : SitsRow w u2 b) :
    SitsV (w.alloc (.cells #[u1, u2] 28)) (.slice (some ⟨w.heap.size, 0, none⟩) 2 2) [a, b] := by
  have hb : Below w.heap.size w (w.alloc (.cells #[u1, u2] 28)) := (Below.refl _ _).alloc (Nat.le_refl _) _
  refine ⟨w.heap.size, 0, 2, rfl, Nat.le_refl _, by omega, by simp, fun i hi => ?_⟩
  match i, hi with
  | 0, _ => exact ⟨u1, by simp, sitsRow_below h1 hb⟩
  | 1, _ => exact ⟨u2, by simp, sitsRow_below h2 hb⟩
/-- Two such slices joined. -/
theorem RowsN.joined {w w' : World} {b B : Nat} {u : Value} {L1 L2 : List (List Int)} {vs1 vs2 : List Value} (a1 : vs1.length = L1.length) (a3 : ∀ i (h1 : i < L1.length) (h2 : i < vs1.length), Own w b vs1[i] L1[i])
    (a4 : ∀ i j (h1 : i < vs1.length) (h2 : j < vs1.length) (g : Nat), i ≠ j → vs1[i].ownBlock = some g → vs1[j].ownBlock ≠ some g) (a5 : ∀ i (h1 : i < vs1.length), ∃ q k c, vs1[i] = .slice (some ⟨q, 0, none⟩) k c) (hlow : ∀ i (h1 : i < vs1.length) g, vs1[i].ownBlock = some g → B ≤ g)
    (c1 : vs2.length = L2.length) (c3 : ∀ i (h1 : i < L2.length) (h2 : i < vs2.length), Own w b vs2[i] L2[i]) (c4 : ∀ i j (h1 : i < vs2.length) (h2 : j < vs2.length) (g : Nat), i ≠ j → vs2[i].ownBlock = some g → vs2[j].ownBlock ≠ some g)
    (c5 : ∀ i (h1 : i < vs2.length), ∃ q k c, vs2[i] = .slice (some ⟨q, 0, none⟩) k c) (hhigh : ∀ i (h1 : i < vs2.length) g, vs2[i].ownBlock = some g → g < B)
    (hb : Below w.heap.size w w') (hv : ∃ g cap, u = .slice (some ⟨g, 0, none⟩) (L1 ++ L2).length cap) (hr : w'.ownsRow b 22 1 u (L1 ++ L2).length (vs1 ++ vs2)) : RowsN w' b u (L1 ++ L2) := by
  obtain ⟨g, cap, e⟩ := hv
  refine ⟨g, cap, e, vs1 ++ vs2, by simp [a1, c1], hr, fun i x y => ?_, fun i j x y z hij hz hz' => ?_, fun i x => ?_⟩
  · by_cases hi : i < L1.length
    · rw [List.getElem_append_left (by omega), List.getElem_append_left hi]
      exact (a3 i hi (by omega)).below hb
    · rw [List.getElem_append_right (by omega), List.getElem_append_right (by omega)]
      simp only [a1]
      exact (c3 _ (by simp at x; omega) (by simp at y; omega)).below hb
  · simp only [List.length_append] at x y
    by_cases hi : i < vs1.length
    · rw [List.getElem_append_left hi] at hz
      by_cases hj : j < vs1.length
      · rw [List.getElem_append_left hj] at hz'
        exact a4 i j hi hj z hij hz hz'
      · rw [List.getElem_append_right (by omega)] at hz'
        have := hlow i hi z hz
        have := hhigh _ (by omega) z hz'
        omega
    · rw [List.getElem_append_right (by omega)] at hz
      by_cases hj : j < vs1.length
      · rw [List.getElem_append_left hj] at hz'
        have := hlow j hj z hz'
        have := hhigh _ (by omega) z hz
        omega
      · rw [List.getElem_append_right (by omega)] at hz'
        exact c4 _ _ (by omega) (by omega) z (by omega) hz hz'
  · simp only [List.length_append] at x
    by_cases hi : i < vs1.length
    · rw [List.getElem_append_left hi]; exact a5 i hi
    · rw [List.getElem_append_right (by omega)]; exact c5 _ (by omega)
end Go.Proofs.Ytijjdidljoicfaa
