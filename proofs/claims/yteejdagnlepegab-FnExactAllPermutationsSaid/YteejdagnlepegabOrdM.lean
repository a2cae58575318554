/- Plain facts on the lists of all permutations of at most 6 numbers, in order: told by reckoning. -/
import Derived.Test.YteejdagnlepegabPerm6
import Derived.Test.YteejdagnlepegabAt1
namespace Go.Proofs.Yteejdagnlepegab
open Go.RowKit
set_option linter.unusedVariables false

def ordersL (n : Nat) : List (List Int) := (List.range (fact n)).map (fun r => atR n (upTo n) r)
theorem ordersL_length (n : Nat) : (ordersL n).length = fact n := by simp [ordersL]
theorem ordersL_get {n j : Nat} (h : j < fact n) : (ordersL n).getD j [] = atR n (upTo n) j := by simp [ordersL, h]
theorem ord_step : ∀ n, n < 7 → ∀ r, r < fact n → npB (atR n (upTo n) r) = decide (r + 1 < fact n) ∧ (r + 1 < fact n → npRes (atR n (upTo n) r) = atR n (upTo n) (r + 1)) := by decide +kernel
theorem fact_small : ∀ n, n < 7 → fact n ≤ 720 ∧ 0 < fact n := by decide
theorem ordersL_take {n j : Nat} (h : j < fact n) : (ordersL n).take (j + 1) = (ordersL n).take j ++ [atR n (upTo n) j] := by
  have hl : j < (ordersL n).length := by rw [ordersL_length]; exact h
  rw [List.take_succ_eq_append_getElem hl]
  simp [ordersL]
theorem ordersL_elem {n : Nat} {l : List Int} (h : l ∈ ordersL n) : l.length = n := by
  simp only [ordersL, List.mem_map] at h
  obtain ⟨r, _, rfl⟩ := h
  exact atR_length n _ _
theorem atR_wf : ∀ n, n < 7 → ∀ r, r < fact n → ∀ x ∈ atR n (upTo n) r, (Lit.int .i64 x).wf = true := by decide +kernel
theorem atR_zero : ∀ n, n < 7 → atR n (upTo n) 0 = upTo n := by decide +kernel
end Go.Proofs.Yteejdagnlepegab
