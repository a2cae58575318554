/- The laws FnExactFactorial and FnExactBinomial return true at every input. Conditions: none. -/
import Derived.Test.YtgfafnejgbblhaaNums
namespace Go.Proofs.Ytgfafnejgbblhaa
open Go.RowKit

theorem inB_nat {n : Int} (h : inB n 0 12 = true) : ∃ k : Nat, n = k ∧ k < 13 := by
  simp [inB] at h
  exact ⟨n.toNat, by omega, by omega⟩

theorem walk_FnExactFactorial (a0 : Int) (w : World) (_w0 : (Lit.int .i64 a0).wf = true) : Calls Try.prog 3 #[.int .i64 a0] w fun e w' => e = .returned (.bool true) ∧ Below w.heap.size w w' := by
  by_cases h : inB a0 0 12 = true
  · obtain ⟨n, rfl, hn⟩ := inB_nat h
    clear h
    go_enter Try.func3, Try.ntmps3
    go_wp2_with (first | (go_at_call 15; refine (spec_Factorial_yes n _ hn).mono ?_; rintro e w' ⟨rfl, rfl⟩) | (go_at_call 16; refine (impl_Factorial_yes n _ hn).mono ?_; rintro e w' ⟨rfl, rfl⟩))
    go_ret
    exact ⟨rfl, Below.refl _ _⟩
  · have h : inB a0 0 12 = false := by simpa using h
    go_enter Try.func3, Try.ntmps3
    go_wp2_with (first | (go_at_call 15; refine (spec_Factorial_no _ _ h).mono ?_; rintro e w' ⟨rfl, rfl⟩) | (go_at_call 16; refine (impl_Factorial_no _ _ h).mono ?_; rintro e w' ⟨rfl, rfl⟩))
    go_ret
    exact ⟨rfl, Below.refl _ _⟩
theorem walk_FnExactBinomial (a0 a1 : Int) (w : World) (_w0 : (Lit.int .i64 a0).wf = true) (_w1 : (Lit.int .i64 a1).wf = true) : Calls Try.prog 4 #[.int .i64 a0, .int .i64 a1] w fun e w' => e = .returned (.bool true) ∧ Below w.heap.size w w' := by
  by_cases h : inB a0 0 12 = false ∨ inB a1 0 12 = false
  · have H : Hid (inB a0 0 12 = false ∨ inB a1 0 12 = false) := h
    clear h
    go_enter Try.func4, Try.ntmps4
    go_wp2_with (first | (go_at_call 17; refine (spec_Binomial_no _ _ _ H.out).mono ?_; rintro e w' ⟨rfl, rfl⟩) | (go_at_call 18; refine (impl_Binomial_no _ _ _ H.out).mono ?_; rintro e w' ⟨rfl, rfl⟩))
    go_ret
    exact ⟨rfl, Below.refl _ _⟩
  · have h0 : inB a0 0 12 = true := by simp at h; exact h.1
    have h1 : inB a1 0 12 = true := by simp at h; exact h.2
    obtain ⟨n, rfl, hn⟩ := inB_nat h0
    obtain ⟨k, rfl, hk⟩ := inB_nat h1
    clear h h0 h1
    go_enter Try.func4, Try.ntmps4
    go_wp2_with (first | (go_at_call 17; refine (spec_Binomial_yes n k _ hn hk).mono ?_; rintro e w' ⟨rfl, rfl⟩) | (go_at_call 18; refine (impl_Binomial_yes n k _ hn hk).mono ?_; rintro e w' ⟨rfl, rfl⟩))
    go_ret
    exact ⟨rfl, Below.refl _ _⟩
end Go.Proofs.Ytgfafnejgbblhaa
