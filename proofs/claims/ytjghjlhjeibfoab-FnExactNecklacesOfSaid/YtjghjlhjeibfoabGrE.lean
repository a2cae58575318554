/- Lists of lists that grow, the rows of which own their cells (and may end before their row does): one more behind; read; ended. Conditions: at most 2^20 lists. -/
import Derived.Test.YtjghjlhjeibfoabPsL0
import Derived.Test.YtjghjlhjeibfoabLE
namespace Go.Proofs.Ytjghjlhjeibfoab
open Go.RowKit
set_option linter.unusedVariables false
set_option maxRecDepth 4000

/-- v is a slice of slices, its own row from lo on, whose elements own their rows from lo on and below H, no two of them on one row, and read as L. -/
structure GrE (w : World) (lo H : Nat) (v : Value) (L : List (List Int)) (vs : List Value) : Prop where
  len : vs.length = L.length
  outer : w.ownsRow lo 22 1 v L.length vs
  rows : ∀ i (h : i < vs.length) (h2 : i < L.length), OwnE w lo vs[i] L[i]
  apart : ∀ i j (h1 : i < vs.length) (h2 : j < vs.length) (g : Nat), i ≠ j → vs[i].ownBlock = some g → vs[j].ownBlock ≠ some g
  under : ∀ i (h : i < vs.length) (g : Nat), vs[i].ownBlock = some g → g < H
def GrL (w : World) (lo H : Nat) (v : Value) (L : List (List Int)) : Prop := ∃ vs, GrE w lo H v L vs
theorem GrL.nil (w : World) (lo H : Nat) : GrL w lo H (.slice none 0 0) [] := ⟨[], rfl, World.ownsRow_nil _ _ _ _, fun i h => absurd h (by simp), fun i j h => absurd h (by simp), fun i h => absurd h (by simp)⟩
theorem GrL.made {w : World} {lo H : Nat} {v : Value} (h : w.ownsRow lo 22 1 v 0 []) : GrL w lo H v [] := ⟨[], rfl, h, fun i h => absurd h (by simp), fun i j h => absurd h (by simp), fun i h => absurd h (by simp)⟩
theorem GrL.below {w w' : World} {lo H : Nat} {v : Value} {L : List (List Int)} (h : GrL w lo H v L) (hb : Below w.heap.size w w') : GrL w' lo H v L := by
  obtain ⟨vs, a, b, c, d, e⟩ := h
  exact ⟨vs, a, ownsRow_below b hb, fun i x y => (c i x y).below hb, d, e⟩
theorem GrL.up {w : World} {lo H H' : Nat} {v : Value} {L : List (List Int)} (h : GrL w lo H v L) (hH : H ≤ H') : GrL w lo H' v L := by
  obtain ⟨vs, a, b, c, d, e⟩ := h
  exact ⟨vs, a, b, c, d, fun i x g hg => Nat.lt_of_lt_of_le (e i x g hg) hH⟩
theorem GrL.listsE {w : World} {lo H : Nat} {v : Value} {L : List (List Int)} (h : GrL w lo H v L) : ListsE w lo w.heap.size v L := by
  obtain ⟨vs, a, b, c, d, e⟩ := h
  refine ⟨vs, a, ?_, fun i x y => (c i x y).livesE, d⟩
  rcases b.2 with ⟨e, hn⟩ | ⟨g, cap, cur, e, hg, hgg, h3, h4, h5, h6⟩
  · exact .inl ⟨e, List.eq_nil_of_length_eq_zero (by omega)⟩
  · exact .inr ⟨g, cap, cur, by rw [a]; exact e, hg, (Array.getElem?_eq_some_iff.1 hgg).1, hgg, by omega, h4, by omega, by rw [a]; simpa using h6⟩
theorem GrL.base {w : World} {lo lo' H : Nat} {v : Value} {L : List (List Int)} (h : GrL w lo H v L) (hl : lo' ≤ lo) : GrL w lo' H v L := by
  obtain ⟨vs, a, b, c, d, e⟩ := h
  exact ⟨vs, a, ownsRow_mono b hl, fun i x y => (c i x y).mono hl, d, e⟩
theorem GrL.lenA {w : World} {lo H n c : Nat} {aA : Option Addr} {L : List (List Int)} (h : GrL w lo H (.slice aA n c) L) : n = L.length := by
  obtain ⟨vs, a, b, _⟩ := h
  rcases b.2 with ⟨e, hn⟩ | ⟨g, cap, cur, e, _⟩
  · simp only [Value.slice.injEq] at e; omega
  · simp only [Value.slice.injEq] at e; exact e.2.1
theorem GrL.shape {w : World} {lo H : Nat} {v : Value} {L : List (List Int)} (h : GrL w lo H v L) : ∃ ao c, v = .slice ao L.length c ∧ L.length ≤ c ∧ c ≤ 9223372036854775807 := by
  obtain ⟨vs, a, b, _⟩ := h
  rcases b.2 with ⟨e, hn⟩ | ⟨g, cap, cur, e, _, _, h3, h4, _⟩
  · exact ⟨none, 0, by rw [e, hn], by omega, by omega⟩
  · exact ⟨_, cap, e, h3, by unfold maxLen at h4; omega⟩
theorem OwnE.kept_type {w w' : World} {base b0 : Nat} {x v : Value} {xs : List Int} {n : Nat} {vs : List Value} {T : TypeId} (h : OwnE w base x xs) (hT : T ≠ 3) (hv : w.ownsRow b0 T 1 v n vs) (hg : w.grownBy w' v.ownBlock) : OwnE w' base x xs := by
  refine OwnE.kept h hg ?_
  rcases h with ⟨rfl, _⟩ | ⟨g, cap, cur, rfl, _, hgg, _⟩
  · exact .inl rfl
  · right
    rcases hv.2 with ⟨rfl, _⟩ | ⟨g', cap', cur', rfl, _, hgg', _⟩
    · simp [Value.ownBlock]
    · simp only [Value.ownBlock, ne_eq, Option.some.injEq]
      intro e
      rw [e, hgg'] at hgg
      simp at hgg
      exact hT hgg.2
theorem GrE.push {w w' : World} {lo H H' : Nat} {v v' u : Value} {L : List (List Int)} {l : List Int} {vs : List Value} (h : GrE w lo H v L vs) (hu : OwnE w lo u l) (hH : ∀ g, u.ownBlock = some g → H ≤ g ∧ g < H') (hHH : H ≤ H')
    (hrow : w'.ownsRow lo 22 1 v' (L.length + 1) (vs ++ [u])) (hg : w.grownBy w' v.ownBlock) : GrE w' lo H' v' (L ++ [l]) (vs ++ [u]) := by
  have hl := h.len
  have hk : ∀ x : Value, ∀ xs : List Int, OwnE w lo x xs → OwnE w' lo x xs := fun x xs hx => OwnE.kept_type hx (T := 22) (by decide) h.outer hg
  refine ⟨by simp [hl], by rw [List.length_append]; exact hrow, fun i b a => ?_, fun i j a b g hij hi hj => ?_, fun i a g hi => ?_⟩
  · by_cases hi : i < L.length
    · rw [List.getElem_append_left (by omega), List.getElem_append_left hi]
      exact hk _ _ (h.rows i (by omega) hi)
    · have e1 : i = vs.length := by simp at b; simp at a; omega
      rw [List.getElem_append_right (by omega), List.getElem_append_right (by omega)]
      simp only [e1, Nat.sub_self, hl]
      simpa using hk _ _ hu
  · simp only [List.length_append, List.length_singleton] at a b
    by_cases h6 : i < vs.length
    · rw [List.getElem_append_left h6] at hi
      by_cases h7 : j < vs.length
      · rw [List.getElem_append_left h7] at hj
        exact h.apart i j h6 h7 g hij hi hj
      · rw [List.getElem_append_right (by omega)] at hj
        simp only [show j - vs.length = 0 by omega, List.getElem_cons_zero] at hj
        have := h.under i h6 g hi
        have := (hH g hj).1
        omega
    · rw [List.getElem_append_right (by omega)] at hi
      simp only [show i - vs.length = 0 by omega, List.getElem_cons_zero] at hi
      by_cases h7 : j < vs.length
      · rw [List.getElem_append_left h7] at hj
        have := h.under j h7 g hj
        have := (hH g hi).1
        omega
      · omega
  · simp only [List.length_append, List.length_singleton] at a
    by_cases h6 : i < vs.length
    · rw [List.getElem_append_left h6] at hi
      exact Nat.lt_of_lt_of_le (h.under i h6 g hi) hHH
    · rw [List.getElem_append_right (by omega)] at hi
      simp only [show i - vs.length = 0 by omega, List.getElem_cons_zero] at hi
      exact (hH g hi).2
theorem OwnE.shp {w : World} {base : Nat} {v : Value} {xs : List Int} (h : OwnE w base v xs) : ∃ ao c, v = .slice ao xs.length c ∧ xs.length ≤ c ∧ c ≤ 9223372036854775807 := by
  rcases h with ⟨rfl, rfl⟩ | ⟨g, cap, cur, rfl, _, _, h1, h2, _⟩
  · exact ⟨none, 0, rfl, Nat.le_refl _, by omega⟩
  · exact ⟨_, cap, rfl, h1, by unfold maxLen at h2; omega⟩
theorem OwnE.one {w : World} {base : Nat} {v : Value} {xs : List Int} (h : OwnE w base v xs) : ∀ u ∈ [v], u.oneCell' = true := by
  intro u hu
  simp at hu
  subst hu
  rcases h with ⟨rfl, _⟩ | ⟨g, cap, cur, rfl, _⟩ <;> rfl
/-- One list more behind: its row lies from H on. -/
theorem wpList_pushE {P : Program} (w : World) {ops : Array Oper} {rest : List Oper} {o : Oper} {a : Act} {Q : Exit → Act → World → Prop} (hgd : o.guard = none) (s x : Operand) (t : TypeId)
    (ho : o.op = .call { callee := .builtin .append, args := #[s, x], argTypes := #[t, t] }) (B H : Nat) (i : TypeInfo) (ht : P.underlying t = some (.slice 22)) (hi : P.info? 22 = some i) (hz : i.zero = some (.slice none 0 0)) (hsize : i.size = 1) (hby : i.bytes = 24)
    (aA : Option Addr) (n c : Nat) (L : List (List Int)) (hs : a.eval s = .slice aA n c) (hL : GrL w B H (.slice aA n c) L) (u : Value) (l : List Int) (hu : OwnE w B u l) (hH : ∀ g, u.ownBlock = some g → H ≤ g) (gs : Nat) (hgs : w.heap.size = gs) (hx : a.eval x = .slice (some ⟨gs, 0, none⟩) 1 1) (hn : n ≤ 1048576) (hB : B ≤ w.heap.size) (hHs : H ≤ w.heap.size)
    (h : ∀ (g cap : Nat) (w' : World), GrL w' B w.heap.size (.slice (some ⟨g, 0, none⟩) (n + 1) cap) (L ++ [l]) → OwnE w' B u l → w.heap.size ≤ w'.heap.size → (∀ (b : Nat) (w0 : World), b ≤ B → Below b w0 w → Below b w0 w') → wpList P ops Q rest (a.put o.dst (.slice (some ⟨g, 0, none⟩) (n + 1) cap)) w') :
    wpList P ops Q (o :: rest) a (w.alloc (.cells #[u] 22)) := by
  subst hgs
  have hl := hL.lenA
  subst hl
  have hb : Below w.heap.size w (w.alloc (.cells #[u] 22)) := (Below.refl _ _).alloc (Nat.le_refl _) _
  obtain ⟨vs, hE⟩ := hL.below hb
  refine wpList_append_lies _ hgd s x t ho B 22 i (.slice none 0 0) 1 24 ht hi hz hsize hby rfl (by decide) _ L.length _ hs hE.outer ⟨w.heap.size, 0, none⟩ 1 1 [u] hx rfl (fun j u hj => new_cellV j hj) hu.one Nat.zero_lt_one (by unfold maxLen; omega) (by omega) (by simp; omega) ?_
  intro g cap w' h1 h2 h3
  refine h g cap w' ?_ ?_ (Nat.le_trans (by simp) h2.size) (fun b w0 e hb0 => ?_)
  · exact ⟨_, hE.push (hu.below hb) (fun g hg => ⟨hH g hg, (hu.low g hg).2⟩) hHs h1 h2⟩
  · exact OwnE.kept_type (hu.below hb) (T := 22) (by decide) hE.outer h2
  · exact (hb0.alloc (Nat.le_trans e hB) _).grown h2 (Nat.le_trans (Nat.le_trans e hB) (by simp)) (fun k hk => Nat.le_trans e (World.ownsRow.lt hE.outer k hk).1)
end Go.Proofs.Ytjghjlhjeibfoab
