/- Slices that are not nil and read as a list; slices of them. No conditions. -/
import Derived.Test.YtkphbelgamfmnaaLives
import Derived.Test.YtkphbelgamfmnaaComb1
namespace Go.Proofs.Ytkphbelgamfmnaa
open Go.RowKit
set_option linter.unusedVariables false

/-- v is a slice that is not nil and reads as xs. -/
def Sits (w : World) (v : Value) (xs : List Int) : Prop :=
  ∃ b off c, v = .slice (some ⟨b, off, none⟩) xs.length c ∧ xs.length ≤ c ∧ c ≤ 9223372036854775807 ∧ b < w.heap.size ∧ ∀ i (hi : i < xs.length), w.cell? ⟨b, off + i, none⟩ = some (.int .i64 xs[i])

theorem Sits.below {w w' : World} {v : Value} {xs : List Int} (h : Sits w v xs) (hb : Below w.heap.size w w') : Sits w' v xs := by
  obtain ⟨b, off, c, rfl, h1, h2, h3, h4⟩ := h
  exact ⟨b, off, c, rfl, h1, h2, Nat.lt_of_lt_of_le h3 hb.size, fun i hi => (hb.cell (by exact h3)).trans (h4 i hi)⟩
theorem Sits.reads {w : World} {v : Value} {xs : List Int} (h : Sits w v xs) : Reads w v xs := by
  obtain ⟨b, off, c, rfl, h1, h2, h3, h4⟩ := h
  exact ⟨_, c, rfl, h1, by unfold maxLen; omega, .inr ⟨b, off, rfl, h3, fun i hi => by rw [h4 i hi, getD_at hi]⟩⟩
theorem Own.sits {w : World} {lo : Nat} {a : Addr} {n c : Nat} {xs : List Int} (h : Own w lo (.slice (some a) n c) xs) : Sits w (.slice (some a) n c) xs := by
  rcases h.form with ⟨h1, h2⟩ | ⟨g, cap, e, _, hlt, h1, h2, hc, _⟩
  · simp at h1
  · rw [e]
    refine ⟨g, 0, cap, rfl, h1, by unfold maxLen at h2; omega, hlt, fun i hi => by rw [hc i hi, getD_at hi]⟩
theorem Lives.sits {w : World} {lo hi : Nat} {a : Addr} {n c : Nat} {xs : List Int} (h : Lives w lo hi (.slice (some a) n c) xs) : Sits w (.slice (some a) n c) xs := h.1.sits

/-- The beginning of a slice, and its end. -/
theorem Sits_take {w : World} {b off c : Nat} {xs : List Int} (k : Nat) (hk : k ≤ xs.length) (hc1 : xs.length ≤ c) (hm : c ≤ 9223372036854775807) (hb : b < w.heap.size)
    (hc : ∀ i (hi : i < xs.length), w.cell? ⟨b, off + i, none⟩ = some (.int .i64 xs[i])) : Sits w (.slice (some ⟨b, off, none⟩) k c) (xs.take k) := by
  have hl : (xs.take k).length = k := by simp; omega
  refine ⟨b, off, c, by rw [hl], by omega, hm, hb, fun i hi => ?_⟩
  rw [hl] at hi
  rw [hc i (by omega)]
  simp
theorem Sits_drop {w : World} {b off c : Nat} {xs : List Int} (k : Nat) (hk : k ≤ xs.length) (hc1 : xs.length ≤ c) (hm : c ≤ 9223372036854775807) (hb : b < w.heap.size)
    (hc : ∀ i (hi : i < xs.length), w.cell? ⟨b, off + i, none⟩ = some (.int .i64 xs[i])) : Sits w (.slice (some ⟨b, off + k, none⟩) (xs.length - k) (c - k)) (xs.drop k) := by
  have hl : (xs.drop k).length = xs.length - k := by simp
  refine ⟨b, off + k, c - k, by rw [hl], by omega, by omega, hb, fun i hi => ?_⟩
  rw [hl] at hi
  rw [Nat.add_assoc, hc (k + i) (by omega)]
  simp

theorem permB_wf (n : Nat) (h : n < 1048576) : (Lit.int .i64 (n : Int)).wf = true := WalkArith.wf_i64 (by omega)
end Go.Proofs.Ytkphbelgamfmnaa
