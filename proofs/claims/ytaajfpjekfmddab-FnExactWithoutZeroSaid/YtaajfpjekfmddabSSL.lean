/- Contract: toIntSS; slices of slices that are not nil and whose rows are not. Conditions: the slice reads as a list of at most 2^20 lists of at most 2^20 numbers. -/
import Derived.Test.YtaajfpjekfmddabRowsL
import Derived.Test.YtaajfpjekfmddabBs1
import Derived.Test.YtaajfpjekfmddabBs2
namespace Go.Proofs.Ytaajfpjekfmddab
open Go.RowKit
set_option linter.unusedVariables false
set_option maxRecDepth 4000

/-- v is a slice that is not nil of slices that are not nil, and reads as L. -/
def SitsL (w : World) (v : Value) (L : List (List Int)) : Prop :=
  ∃ b off c, v = .slice (some ⟨b, off, none⟩) L.length c ∧ L.length ≤ c ∧ c ≤ 9223372036854775807 ∧ b < w.heap.size ∧ ∀ i (hi : i < L.length), ∃ u, w.cell? ⟨b, off + i, none⟩ = some u ∧ Sits w u L[i]
theorem SitsL.below {w w' : World} {v : Value} {L : List (List Int)} (h : SitsL w v L) (hb : Below w.heap.size w w') : SitsL w' v L := by
  obtain ⟨b, off, c, rfl, h1, h2, h3, h4⟩ := h
  refine ⟨b, off, c, rfl, h1, h2, Nat.lt_of_lt_of_le h3 hb.size, fun i hi => ?_⟩
  obtain ⟨u, hu, hs⟩ := h4 i hi
  exact ⟨u, (hb.cell (by exact h3)).trans hu, hs.below hb⟩
/-- A made row is an owned one. -/
theorem ownsRow_of_rowIs {w : World} {g n : Nat} {T : TypeId} {f : Nat → Value} (h : w.rowIs g T n f) (hm : n ≤ maxLen) : w.ownsRow g T 1 (.slice (some ⟨g, 0, none⟩) n n) n ((List.range n).map f) := by
  obtain ⟨c, hc, hs, hf⟩ := h
  refine ⟨by simp, .inr ⟨g, n, c, rfl, Nat.le_refl _, hc, by omega, hm, by omega, ?_⟩⟩
  apply List.ext_getElem?
  intro i
  by_cases hi : i < n
  · have := hf i hi
    simp [hi] at this ⊢
    exact this
  · rw [List.getElem?_eq_none (by simp; omega), List.getElem?_eq_none (by simp; omega)]
theorem rowIs_below {w w' : World} {B g n : Nat} {T : TypeId} {f : Nat → Value} (h : w.rowIs g T n f) (hb : Below B w w') (hg : g < B) : w'.rowIs g T n f := h.of_block (hb.block g hg)
theorem grownBy_setCellAt (W : World) (b k : Nat) (v : Value) : W.grownBy (W.setCell ⟨b, k, none⟩ v) (some b) :=
  ⟨rfl, rfl, rfl, by simp, fun i _ hne => Below.heap_setCell _ _ _ i (fun e => hne (by rw [e]))⟩
/-- the first k rows are copied, into blocks behind g -/
def Copied (w : World) (g : Nat) (U : Nat → Value) (L : List (List Int)) (k : Nat) : Prop :=
  ∀ i (hi : i < L.length), i < k → ∃ h, U i = .slice (some ⟨h, 0, none⟩) L[i].length L[i].length ∧ g < h ∧ Own w g (U i) L[i]
theorem Copied.below {w w' : World} {g k : Nat} {U : Nat → Value} {L : List (List Int)} (h : Copied w g U L k) (hb : Below w.heap.size w w') : Copied w' g U L k := by
  intro i hi hk
  obtain ⟨q, h1, h2, h3⟩ := h i hi hk
  exact ⟨q, h1, h2, h3.below hb⟩
theorem Copied.kept {w w' : World} {g k : Nat} {U : Nat → Value} {L : List (List Int)} (h : Copied w g U L k) (hb : w.grownBy w' (some g)) : Copied w' g U L k := by
  intro i hi hk
  obtain ⟨q, h1, h2, h3⟩ := h i hi hk
  refine ⟨q, h1, h2, h3.kept hb (.inr ?_)⟩
  rw [h1]
  simp only [Value.ownBlock, ne_eq, Option.some.injEq]
  omega
theorem Copied.step {w : World} {g k q : Nat} {U : Nat → Value} {L : List (List Int)} (h : Copied w g U L k) (hk : k < L.length) (hq : g < q) (ho : Own w g (.slice (some ⟨q, 0, none⟩) L[k].length L[k].length) L[k]) :
    Copied w g (fun j => if j = k then .slice (some ⟨q, 0, none⟩) L[k].length L[k].length else U j) L (k + 1) := by
  intro i hi hk1
  by_cases e : i = k
  · subst e
    exact ⟨q, by simp, hq, by simpa using ho⟩
  · obtain ⟨q', h1, h2, h3⟩ := h i hi (by omega)
    exact ⟨q', by simp [e, h1], h2, by simpa [e] using h3⟩
/-- what toIntSS hands back -/
def Rows2 (w : World) (g : Nat) (v : Value) (L : List (List Int)) : Prop := Lists w g v L ∧ SitsL w v L
theorem Rows2.below {w w' : World} {g : Nat} {v : Value} {L : List (List Int)} (h : Rows2 w g v L) (hb : Below w.heap.size w w') : Rows2 w' g v L := ⟨h.1.below hb, h.2.below hb⟩
theorem Rows2.of {w : World} {g : Nat} {U : Nat → Value} {L : List (List Int)} (h : Copied w g U L L.length) (hr : w.rowIs g 22 L.length U) (hm : L.length ≤ 1048576) : Rows2 w g (.slice (some ⟨g, 0, none⟩) L.length L.length) L := by
  refine ⟨⟨(List.range L.length).map U, by simp, ownsRow_of_rowIs hr (by unfold maxLen; omega), fun i h1 h2 => ?_⟩, g, 0, L.length, rfl, Nat.le_refl _, by omega, hr.lt, fun i hi => ?_⟩
  · obtain ⟨q, _, _, h3⟩ := h i h1 h1
    simpa using h3
  · obtain ⟨q, h1, _, h3⟩ := h i hi hi
    refine ⟨U i, by rw [Nat.zero_add]; exact hr.cell hi, ?_⟩
    rw [h1] at h3 ⊢
    exact h3.sits
end Go.Proofs.Ytaajfpjekfmddab
