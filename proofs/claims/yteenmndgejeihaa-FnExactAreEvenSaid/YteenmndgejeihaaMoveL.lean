/- Owned rows of moves beside owned rows of numbers, when one of them is written. Conditions: none. -/
import Derived.Test.YteenmndgejeihaaMoveS
import Derived.Test.YteenmndgejeihaaLives
namespace Go.Proofs.Yteenmndgejeihaa
open Go.RowKit
set_option linter.unusedVariables false

theorem lm_box (w : World) (k i j : Int) : (w.alloc (lmObj k i j)).cell? ⟨w.heap.size, 0, none⟩ = some (.int .i64 k) ∧ (w.alloc (lmObj k i j)).cell? ⟨w.heap.size, 1, none⟩ = some (.int .i64 i) ∧ (w.alloc (lmObj k i j)).cell? ⟨w.heap.size, 2, none⟩ = some (.int .i64 j) := by
  have h := World.rowIs_alloc w #[.int .i64 k, .int .i64 i, .int .i64 j] 35 (fun t => if t = 0 then .int .i64 k else if t = 1 then .int .i64 i else .int .i64 j) (fun t ht => by
    match t, ht with
    | 0, _ => rfl | 1, _ => rfl | 2, _ => rfl
    | t + 3, h => exact absurd h (by simp))
  exact ⟨h.cell (i := 0) (by simp), h.cell (i := 1) (by simp), h.cell (i := 2) (by simp)⟩
theorem Lives.keptRow {w w' : World} {lo hi g : Nat} {v : Value} {xs : List Int} (h : Lives w lo hi v xs) (hg : w.grownBy w' (some g)) (hne : hi ≤ g ∨ g < lo) : Lives w' lo hi v xs := by
  refine ⟨Own.kept h.1 hg ?_, h.2⟩
  cases hv : v.ownBlock with
  | none => exact .inl rfl
  | some k =>
    right
    simp only [ne_eq, Option.some.injEq]
    have h1 := h.2 k hv
    have h2 := h.low k hv
    omega
theorem RowM.keptLives {w w' : World} {lo hi g : Nat} {ms : List Mv} {u : Value} {ys : List Int} (h : RowM w g ms) (h' : Lives w lo hi u ys) (hg : w.grownBy w' u.ownBlock) (hne : hi ≤ g ∨ g < lo) : RowM w' g ms := by
  refine h.kept hg (fun e => ?_)
  have h1 := h'.2 g e.symm
  have h2 := h'.low g e.symm
  omega
theorem Below.markedRow {w w1 w' : World} {g : Nat} (h : Below w.heap.size w w1) (hg : w1.grownBy w' (some g)) (hlo : w.heap.size ≤ g) : Below w.heap.size w w' :=
  h.grown hg h.size (fun k hk => by simp only [Option.some.injEq] at hk; omega)
end Go.Proofs.Yteenmndgejeihaa
