/- A slice of slices of ints that came in reads as a list of lists. Conditions: none. -/
import Derived.Test.YtkphbelgamfmnaaRowsL
namespace Go.Proofs.Ytkphbelgamfmnaa
open Go.RowKit Go.WideShapes Go.Deep
set_option linter.unusedVariables false

theorem ReadsL.of_rows {W : World} {a : Addr} {len cap : Nat} {A : Nat → Option Addr} {L C : Nat → Nat} {Z : Nat → List Int} (hl : len ≤ cap) (hm : cap ≤ maxLen)
    (h : ∀ r, r < cap → W.cell? (a.add r) = some (.slice (A r) (L r) (C r)) ∧ IsRow .i64 W (A r) (L r) (C r) (Z r)) : ReadsL W (.slice (some a) len cap) ((List.range len).map fun r => (Z r).take (L r)) := by
  refine ⟨some a, cap, by simp, by simpa using hl, hm, ?_⟩
  by_cases h0 : len = 0
  · left; subst h0; rfl
  · right
    have hc := (h 0 (by omega)).1
    obtain ⟨b, off, spot⟩ := a
    have hspot : spot = none := by simpa [Addr.add] using World.cell?_spot hc
    subst hspot
    have hlt : b < W.heap.size := World.block_lt_of_cell? W _ hc
    refine ⟨b, off, rfl, hlt, fun i hi => ?_⟩
    have hi' : i < len := by simpa using hi
    obtain ⟨h1, h2⟩ := h i (by omega)
    have e : (⟨b, off, none⟩ : Addr).add i = ⟨b, off + i, none⟩ := by
      by_cases h : i = 0 <;> simp [Addr.add, h]
    rw [e] at h1
    refine ⟨_, h1, ?_⟩
    simp only [List.getElem_map, List.getElem_range]
    exact h2.reads.1
/-- What the reader says of an argument of type [][]int. -/
theorem rows_in {H : Type} {enc : TypeId × Value → H} {P : Program} {W : World} {base : Nat} {held : Bool} {t e q : TypeId} {fuel : Nat} {x : DataW H × List MemPlace} {a : Option Addr} {len cap : Nat}
    (ht : P.underlying t = some (.slice e)) (he : P.underlying e = some (.slice q)) (hq : P.underlying q = some (.int .i64)) (ce : P.cellsOf e = 1) (cq : P.cellsOf q = 1)
    (h : DataW.trod enc P W base (fun _ => true) held fuel t [.slice a len cap] = some x) :
    ∃ Ls : List (List Int), ReadsL W (.slice a len cap) Ls ∧ Ls.length = len ∧ ∀ l ∈ Ls, ∀ n ∈ l, (Lit.int .i64 n).wf = true := by
  rcases open_int_rows ht he hq ce cq h with ⟨hcs, _⟩ | ⟨a', len', cap', A, L, C, Z, hcs, _, hl, hm, _, hr⟩
  · simp at hcs
    obtain ⟨rfl, rfl, rfl⟩ := hcs
    exact ⟨[], ⟨none, 0, rfl, Nat.le_refl _, by unfold maxLen; omega, .inl rfl⟩, rfl, by simp⟩
  · simp at hcs
    obtain ⟨rfl, rfl, rfl⟩ := hcs
    have hrow : ∀ r, r < cap → W.cell? (a'.add r) = some (.slice (A r) (L r) (C r)) ∧ IsRow .i64 W (A r) (L r) (C r) (Z r) := by
      intro r hr0
      obtain ⟨h1, h2, h3, h4, h5, h6, h7⟩ := hr r hr0
      refine ⟨h1, ?_⟩
      cases hA : A r with
      | none =>
        have hc0 := h6 hA
        exact .inl ⟨rfl, by omega, hc0, List.eq_nil_of_length_eq_zero (by omega)⟩
      | some p => exact .inr ⟨p, rfl, h2, h3, h4, fun i hi => (h7 p hA).2 i (by omega), h5⟩
    refine ⟨_, ReadsL.of_rows hl hm hrow, by simp, fun l hl2 n hn => ?_⟩
    obtain ⟨r, hr1, rfl⟩ := List.mem_map.1 hl2
    exact (hrow r (by have := List.mem_range.1 hr1; omega)).2.wf n hn
end Go.Proofs.Ytkphbelgamfmnaa
