/- Contract: raAt, the order with a rank of some numbers. Conditions: at most 12 numbers, the rank below the factorial. -/
import Derived.Test.YtkphbelgamfmnaaApp
namespace Go.Proofs.Ytkphbelgamfmnaa
open Go.RowKit
set_option linter.unusedVariables false

/-- the order with the rank r of m numbers -/
def atR : Nat → List Int → Nat → List Int
  | 0, _, _ => []
  | m + 1, xs, r => xs.getD (r / fact m) 0 :: atR m (xs.eraseIdx (r / fact m)) (r % fact m)
theorem atR_length (m : Nat) : ∀ (xs : List Int) (r : Nat), (atR m xs r).length = m := by
  induction m with
  | zero => intro xs r; rfl
  | succ m ih => intro xs r; rw [atR, List.length_cons, ih]
theorem at_index {m r : Nat} (h : r < fact (m + 1)) (hm : m < 12) : r / fact m < m + 1 ∧ r % fact m < fact m := by
  have hp := fact_pos m (by omega)
  exact ⟨Nat.div_lt_of_lt_mul (by rw [fact] at h; rw [Nat.mul_comm]; exact h), Nat.mod_lt _ (by omega)⟩

theorem Reads.sits {w : World} {v : Value} {xs : List Int} (h : Reads w v xs) (hx : 0 < xs.length) : Sits w v xs := by
  obtain ⟨ao, c, rfl, hc1, hm, h⟩ := h.view
  rcases h with h | ⟨b, off, rfl, hb, hc⟩
  · rw [h] at hx; simp at hx
  · exact ⟨b, off, c, rfl, hc1, hm, hb, hc⟩
theorem Own.lit1 (w : World) (x : Int) : Own (w.alloc (.cells #[.int .i64 x] 3)) w.heap.size (.slice (some ⟨w.heap.size, 0, none⟩) 1 1) [x] :=
  World.ownsRow_lit w #[.int .i64 x] 1 (Nat.le_refl _) (by unfold maxLen; omega) rfl
theorem own_low {g n c : Nat} : ∀ k, (Value.slice (some ⟨g, 0, none⟩) n c).ownBlock = some k → g ≤ k := by
  intro k hk
  simp [Value.ownBlock] at hk
  omega
theorem alloc_size_le (w : World) (o : Obj) : w.heap.size ≤ (w.alloc o).heap.size := by simp
end Go.Proofs.Ytkphbelgamfmnaa
