/- A torus (a struct of one [][]int) that came in: what it reads as. Conditions: none. -/
import Derived.Test.YteimfdpkodcfbaaBs3
import Derived.Lib.SmallJoins
namespace Go.Proofs.Yteimfdpkodcfbaa
open Go.RowKit Go.WideShapes Go.Deep
set_option linter.unusedVariables false

theorem torus_in {H : Type} {enc : TypeId × Value → H} {P : Program} {W : World} {base : Nat} {held : Bool} {r : Reach} {b0 : Nat} {t e q : TypeId} {f0 : Field} {v : Value} {d : DataW H} {p : List MemPlace}
    (hs : P.underlying t = some (.struct #[f0])) (hC : P.cellsOf t = 1) (o0 : f0.offset = 0) (c0 : P.cellsOf f0.type = 1)
    (ht : P.underlying f0.type = some (.slice e)) (he : P.underlying e = some (.slice q)) (hq : P.underlying q = some (.int .i64)) (ce : P.cellsOf e = 1) (cq : P.cellsOf q = 1)
    (hv : Value.okWide P W r b0 t v) (h : DataW.Trod enc P W base (fun _ => true) held t v d p) :
    ∃ (a : Option Addr) (len cap : Nat) (Ls : List (List Int)), v = .agg #[.slice a len cap] ∧ ReadsL W (.slice a len cap) Ls ∧ Ls.length = len ∧ ∀ l ∈ Ls, ∀ n ∈ l, (Lit.int .i64 n).wf = true := by
  obtain ⟨cs, rfl, hsz⟩ := okWide_struct hs hv
  rw [hC] at hsz
  obtain ⟨c1, rfl⟩ : ∃ c1, cs = #[c1] := by
    obtain ⟨l⟩ := cs
    simp only [List.size_toArray] at hsz
    match l, hsz with
    | [x], _ => exact ⟨x, rfl⟩
  obtain ⟨fuel, hf⟩ := h
  obtain ⟨xs, k, hk, hxy, _, hxl, hx⟩ := DataW.trod_struct hs hf
  match xs, hxl with
  | [y0], _ =>
    have t0 := hx 0 f0 rfl
    simp [o0, c0, Value.cells] at t0
    rcases open_int_rows ht he hq ce cq t0 with ⟨hcs, _⟩ | ⟨a', len', cap', A, L, C, Z, hcs, _⟩
    · simp only [List.cons.injEq, and_true] at hcs
      subst hcs
      obtain ⟨Ls, h1, h2, h3⟩ := rows_in ht he hq ce cq t0
      exact ⟨_, _, _, Ls, rfl, h1, h2, h3⟩
    · simp only [List.cons.injEq, and_true] at hcs
      subst hcs
      obtain ⟨Ls, h1, h2, h3⟩ := rows_in ht he hq ce cq t0
      exact ⟨_, _, _, Ls, rfl, h1, h2, h3⟩
end Go.Proofs.Yteimfdpkodcfbaa
