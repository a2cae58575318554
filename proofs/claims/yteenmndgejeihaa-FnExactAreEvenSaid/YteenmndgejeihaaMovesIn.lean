/- A move, and a slice of moves, that came in: what they read as. Conditions: none. -/
import Derived.Test.YteenmndgejeihaaMoveS
import Derived.Test.YteenmndgejeihaaRowsIn
import Derived.Lib.SmallJoins
namespace Go.Proofs.Yteenmndgejeihaa
open Go.RowKit Go.WideShapes Go.Deep
set_option linter.unusedVariables false

theorem move_in {H : Type} {enc : TypeId × Value → H} {P : Program} {W : World} {base : Nat} {spare : Nat → Bool} {held : Bool} {r : Reach} {b0 : Nat} {t : TypeId} {f0 f1 f2 : Field} {v : Value} {d : DataW H} {p : List MemPlace}
    (hs : P.underlying t = some (.struct #[f0, f1, f2])) (hone : Go.Deep.oneCellFields P #[f0, f1, f2] = true) (hC : P.cellsOf t = 3)
    (h0 : P.underlying f0.type = some (.int .i64)) (h1 : P.underlying f1.type = some (.int .i64)) (h2 : P.underlying f2.type = some (.int .i64))
    (hv : Value.okWide P W r b0 t v) (h : DataW.Trod enc P W base spare held t v d p) :
    ∃ k i j : Int, v = mvA k i j ∧ (Lit.int .i64 k).wf = true ∧ (Lit.int .i64 i).wf = true ∧ (Lit.int .i64 j).wf = true := by
  obtain ⟨v0, v1, v2, y0, y1, y2, n, rfl, _, _, e0, e1, e2⟩ := Go.Joins.open_agg3 hs hone hC hv h
  obtain ⟨k, hk, _, wk⟩ := DataW.trod_int h0 e0
  obtain ⟨i, hi, _, wi⟩ := DataW.trod_int h1 e1
  obtain ⟨j, hj, _, wj⟩ := DataW.trod_int h2 e2
  simp only [List.cons.injEq, and_true] at hk hi hj
  exact ⟨k, i, j, by rw [hk, hi, hj], wk, wi, wj⟩
theorem moves_in {H : Type} {enc : TypeId × Value → H} {P : Program} {W : World} {base : Nat} {held : Bool} {t e : TypeId} {f0 f1 f2 : Field} {fuel : Nat} {x : DataW H × List MemPlace} {a : Option Addr} {len cap : Nat}
    (ht : P.underlying t = some (.slice e)) (he : P.underlying e = some (.struct #[f0, f1, f2])) (ce : P.cellsOf e = 3)
    (o0 : f0.offset = 0) (o1 : f1.offset = 1) (o2 : f2.offset = 2) (c0 : P.cellsOf f0.type = 1) (c1 : P.cellsOf f1.type = 1) (c2 : P.cellsOf f2.type = 1)
    (h0 : P.underlying f0.type = some (.int .i64)) (h1 : P.underlying f1.type = some (.int .i64)) (h2 : P.underlying f2.type = some (.int .i64))
    (h : DataW.trod enc P W base (fun _ => true) held fuel t [.slice a len cap] = some x) :
    ∃ ms : List Mv, ReadsM W (.slice a len cap) ms ∧ ms.length = len ∧ wfM ms := by
  rcases open_slice ht h with ⟨hcs, _⟩ | ⟨a', len', cap', m, n, D, Pl, hcs, _, hl, hm, hmm, _, hx⟩
  · simp at hcs
    obtain ⟨rfl, rfl, rfl⟩ := hcs
    exact ⟨[], ⟨none, 0, rfl, Nat.le_refl _, by unfold maxLen; omega, .inl rfl⟩, rfl, by simp [wfM]⟩
  · simp at hcs
    obtain ⟨rfl, rfl, rfl⟩ := hcs
    simp only [if_true] at hmm
    have hmm' := hmm.symm
    subst hmm'
    have each : ∀ i, i < cap → ∃ q : Mv, W.cell? (a'.add (i * 3)) = some (.int .i64 q.1) ∧ W.cell? (a'.add (i * 3 + 1)) = some (.int .i64 q.2.1) ∧ W.cell? (a'.add (i * 3 + 2)) = some (.int .i64 q.2.2) ∧
        (Lit.int .i64 q.1).wf = true ∧ (Lit.int .i64 q.2.1).wf = true ∧ (Lit.int .i64 q.2.2).wf = true := by
      intro i hi
      obtain ⟨cs', g1, g2⟩ := hx i hi
      rw [ce] at g1
      obtain ⟨_, hlen, hcell⟩ := World.cells?_some g1
      obtain ⟨xs, k, hk, hxy, _, hxl, hf⟩ := DataW.trod_struct he g2
      match xs, hxl, cs', hlen with
      | [y0, y1, y2], _, [v0, v1, v2], _ =>
        have t0 := hf 0 f0 rfl
        have t1 := hf 1 f1 rfl
        have t2 := hf 2 f2 rfl
        simp [o0, o1, o2, c0, c1, c2] at t0 t1 t2
        have e0 := hcell 0 (by omega)
        have e1 := hcell 1 (by omega)
        have e2 := hcell 2 (by omega)
        rw [add_add] at e0 e1 e2
        obtain ⟨k0, hk0, _, wk0⟩ := DataW.trod_int h0 t0
        obtain ⟨k1, hk1, _, wk1⟩ := DataW.trod_int h1 t1
        obtain ⟨k2, hk2, _, wk2⟩ := DataW.trod_int h2 t2
        simp only [List.cons.injEq, and_true] at hk0 hk1 hk2
        subst hk0 hk1 hk2
        exact ⟨(k0, k1, k2), by simpa using e0, by simpa using e1, by simpa using e2, wk0, wk1, wk2⟩
    obtain ⟨q, hq⟩ := choose_lt each
    have hlq : ((List.range len).map q).length = len := by simp
    refine ⟨(List.range len).map q, ⟨some a', cap, by rw [hlq], by rw [hlq]; exact hl, hm, ?_⟩, hlq, fun m hm2 => ?_⟩
    · by_cases hz : len = 0
      · left; subst hz; rfl
      · right
        have hc := (hq 0 (by omega)).1
        obtain ⟨b, off, spot⟩ := a'
        have hspot : spot = none := by simpa [Addr.add] using World.cell?_spot hc
        subst hspot
        have hlt : b < W.heap.size := World.block_lt_of_cell? W _ hc
        refine ⟨b, off, rfl, hlt, fun i hi => ?_⟩
        have hi' : i < len := by simpa using hi
        obtain ⟨g1, g2, g3, _⟩ := hq i (by omega)
        simp only [List.getElem_map, List.getElem_range]
        have ea : ∀ z : Nat, (⟨b, off, none⟩ : Addr).add z = ⟨b, off + z, none⟩ := fun z => by
          by_cases h : z = 0 <;> simp [Addr.add, h]
        rw [ea] at g1 g2 g3
        exact ⟨g1, by rw [Nat.add_assoc]; exact g2, by rw [Nat.add_assoc]; exact g3⟩
    · obtain ⟨i, hi, rfl⟩ := List.mem_map.1 hm2
      have := hq i (by have := List.mem_range.1 hi; omega)
      exact this.2.2.2
end Go.Proofs.Yteenmndgejeihaa
