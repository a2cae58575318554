/- Rows of integers that are filled from the front. No conditions. -/
import Derived.Test.YteimfdpkodcfbaaBs1
namespace Go.Proofs.Yteimfdpkodcfbaa
open Go.RowKit
set_option linter.unusedVariables false

theorem one_cell9 (k : IntKind) (x : Int) : ∀ u ∈ [Value.int k x], u.oneCell' = true := by
  intro u hu
  simp at hu
  subst hu
  rfl
/-- the numbers made so far, zeros behind them -/
def rowTo (L : List Int) (k j : Nat) : Int := if j < k then L.getD j 0 else 0
theorem rowTo_set {w : World} {g : Nat} {L : List Int} {k : Nat} {d : Int} (hk : k < L.length) (hd : d = L.getD k 0) (h : w.rowIs g 3 L.length (fun j => .int .i64 (rowTo L k j))) :
    (w.setCell ⟨g, k, none⟩ (.int .i64 d)).rowIs g 3 L.length (fun j => .int .i64 (rowTo L (k + 1) j)) := by
  refine (h.set k (.int .i64 d)).congr (fun i hi => ?_)
  by_cases e : i = k
  · subst e
    rw [if_pos rfl, rowTo, if_pos (by omega), hd]
  · rw [if_neg e]
    unfold rowTo
    by_cases h1 : i < k
    · rw [if_pos h1, if_pos (by omega)]
    · rw [if_neg h1, if_neg (by omega)]
theorem rowTo_made {w : World} {L : List Int} {n : Nat} (hn : L.length = n) : (w.alloc (.cells (madeCells #[.int .i64 0] n) 3)).rowIs w.heap.size 3 L.length (fun j => .int .i64 (rowTo L 0 j)) := by
  subst hn
  exact (World.rowIs_made w (.int .i64 0) L.length 3).congr (fun i hi => by rw [rowTo, if_neg (by omega)])
theorem rowTo_own {w : World} {g n : Nat} {L : List Int} (hn : L.length = n) (hl : n ≤ 1048576) (h : w.rowIs g 3 L.length (fun j => .int .i64 (rowTo L n j))) : Own w g (.slice (some ⟨g, 0, none⟩) n n) L :=
  Own.of_rowIs (by rw [hn] at h; exact h.congr (fun i hi => by rw [rowTo, if_pos hi])) hn (by unfold maxLen; omega)
theorem ret_sb7 {u : Value} {b b' : Bool} (h : b = b') : Ending.returned (.tuple #[u, .bool b]) = .returned (.tuple #[u, .bool b']) := by rw [h]
end Go.Proofs.Yteimfdpkodcfbaa
