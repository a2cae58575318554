/- Contracts of the small functions on numbers: l1In, raItems, isItemCount, raFactorial, factorial, raBinomial, choose. Conditions: the stated ranges of the arguments. -/
import Derived.Test.YteenmndgejeihaaRows
import Derived.Test.YteenmndgejeihaaMem
import Derived.Test.YteenmndgejeihaaMath
import Derived.WalkKit
import Derived.WalkSpells
import Derived.WalkLawsBesides
namespace Go.Proofs.Yteenmndgejeihaa
set_option linter.unusedVariables false
open Go.RowKit

theorem ret_int {k : IntKind} {a b : Int} (h : a = b) : Ending.returned (.int k a) = .returned (.int k b) := by rw [h]

theorem ret_bool {a b : Bool} (h : a = b) : Ending.returned (.bool a) = .returned (.bool b) := by rw [h]

/-- lo ≤ n and n ≤ hi -/
def inB (n lo hi : Int) : Bool := decide (lo ≤ n) && decide (n ≤ hi)

theorem l1In_any (n lo hi : Int) (w : World) : Calls Try.prog 63 #[.int .i64 n, .int .i64 lo, .int .i64 hi] w fun e w' => e = .returned (.bool (inB n lo hi)) ∧ w = w' := by
  by_cases h1 : lo ≤ n
  · by_cases h2 : n ≤ hi
    all_goals
      go_enter Try.func63, Try.ntmps63
      go_wp2
      go_ret
      exact ⟨by simp [inB]; omega, rfl⟩
  · go_enter Try.func63, Try.ntmps63
    go_wp2
    go_ret
    exact ⟨by simp [inB]; omega, rfl⟩
theorem raItems_any (n : Int) (w : World) : Calls Try.prog 62 #[.int .i64 n] w fun e w' => e = .returned (.bool (inB n 0 12)) ∧ w = w' := by
  go_enter Try.func62, Try.ntmps62
  go_wp2_with (go_at_call 63; refine (l1In_any _ _ _ _).mono ?_; rintro e w' ⟨rfl, rfl⟩)
  go_ret
  exact ⟨rfl, rfl⟩
theorem isItemCount_any (n : Int) (w : World) : Calls Try.prog 66 #[.int .i64 n] w fun e w' => e = .returned (.bool (inB n 0 12)) ∧ w = w' := by
  by_cases h1 : 0 ≤ n
  · by_cases h2 : n ≤ 12
    all_goals
      go_enter Try.func66, Try.ntmps66
      go_wp2
      go_ret
      exact ⟨by simp [inB]; omega, rfl⟩
  · go_enter Try.func66, Try.ntmps66
    go_wp2
    go_ret
    exact ⟨by simp [inB]; omega, rfl⟩
theorem raFactorial_any (k : Nat) : ∀ (w : World), k < 13 → Calls Try.prog 64 #[.int .i64 (k : Int)] w fun e w' => e = .returned (.int .i64 (fact k)) ∧ w = w' := by
  induction k with
  | zero =>
    intro w _
    go_enter Try.func64, Try.ntmps64
    go_wp2_with fail
    go_ret
    exact ⟨rfl, rfl⟩
  | succ k ih =>
    intro w hk
    have hb := fact_le k (by omega)
    have hm : ((k : Int) + 1) * (fact k : Int) ≤ 479001600 := cast_mul_le (a := k + 1) (fact_le (k + 1) hk)
    have hm0 : 0 ≤ ((k : Int) + 1) * (fact k : Int) := Int.mul_nonneg (by omega) (by omega)
    have h0 : ((k : Int) + 1 == 0) = false := by simp; omega
    go_enter Try.func64, Try.ntmps64
    go_wp2_with fail
    refine (ih _ (by omega)).mono ?_
    rintro e w' ⟨rfl, rfl⟩
    go_wp2_with fail
    go_ret
    exact ⟨ret_int (by simp [fact]), rfl⟩
/-- the product of 1, .., i - 1 times i is the factorial -/
theorem factorial_any (n : Nat) (w : World) (hn : n < 13) : Calls Try.prog 67 #[.int .i64 (n : Int)] w fun e w' => e = .returned (.int .i64 (fact n)) ∧ w = w' := by
  go_enter Try.func67, Try.ntmps67
  go_wp2
  go_loop [3, 4] (fun p i => ∃ k : Nat, 1 ≤ k ∧ k ≤ max n 1 ∧ i = .int .i64 ((k : Int) + 1) ∧ p = .int .i64 (fact k)) (fun _ i => 14 - (intOf i).toNat)
  case atStart => exact ⟨1, by omega, by omega, rfl, rfl⟩
  case round =>
    obtain ⟨k, hk1, hk2, rfl, rfl⟩ := hrel
    have hb := fact_le k (by omega)
    by_cases hlt : k + 1 ≤ n
    · have hm : (fact k : Int) * ((k : Int) + 1) ≤ 479001600 := cast_mul_le (b := k + 1) (by rw [Nat.mul_comm]; exact fact_le (k + 1) (by omega))
      have hm0 : 0 ≤ (fact k : Int) * ((k : Int) + 1) := Int.mul_nonneg (by omega) (by omega)
      go_wp2
      go_round
      case rel => exact ⟨k + 1, by omega, by omega, by go_num, by simp [fact, Int.mul_comm]⟩
      case measure => simp [intOf]; omega
    · go_wp2
      go_ret
      exact ⟨ret_int (by
        by_cases h1 : n = 0
        · subst h1
          obtain rfl : k = 1 := by omega
          rfl
        · obtain rfl : k = n := by omega
          rfl), rfl⟩
end Go.Proofs.Yteenmndgejeihaa
