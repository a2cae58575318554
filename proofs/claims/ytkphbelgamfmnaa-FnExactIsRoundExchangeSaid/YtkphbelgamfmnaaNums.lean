/- Contracts of the small functions on numbers: l1In, raItems, isItemCount, raFactorial, factorial, raBinomial, choose. Conditions: the stated ranges of the arguments. -/
import Derived.Test.YtkphbelgamfmnaaRows
import Derived.Test.YtkphbelgamfmnaaMem
import Derived.Test.YtkphbelgamfmnaaMath
import Derived.WalkKit
import Derived.WalkSpells
import Derived.WalkLawsBesides
namespace Go.Proofs.Ytkphbelgamfmnaa
set_option linter.unusedVariables false
open Go.RowKit

theorem ret_int {k : IntKind} {a b : Int} (h : a = b) : Ending.returned (.int k a) = .returned (.int k b) := by rw [h]

theorem ret_bool {a b : Bool} (h : a = b) : Ending.returned (.bool a) = .returned (.bool b) := by rw [h]

/-- lo ≤ n and n ≤ hi -/
def inB (n lo hi : Int) : Bool := decide (lo ≤ n) && decide (n ≤ hi)

theorem l1In_any (n lo hi : Int) (w : World) : Calls Try.prog 46 #[.int .i64 n, .int .i64 lo, .int .i64 hi] w fun e w' => e = .returned (.bool (inB n lo hi)) ∧ w = w' := by
  by_cases h1 : lo ≤ n
  · by_cases h2 : n ≤ hi
    all_goals
      go_enter Try.func46, Try.ntmps46
      go_wp2
      go_ret
      exact ⟨by simp [inB]; omega, rfl⟩
  · go_enter Try.func46, Try.ntmps46
    go_wp2
    go_ret
    exact ⟨by simp [inB]; omega, rfl⟩
theorem raItems_any (n : Int) (w : World) : Calls Try.prog 57 #[.int .i64 n] w fun e w' => e = .returned (.bool (inB n 0 12)) ∧ w = w' := by
  go_enter Try.func57, Try.ntmps57
  go_wp2_with (go_at_call 46; refine (l1In_any _ _ _ _).mono ?_; rintro e w' ⟨rfl, rfl⟩)
  go_ret
  exact ⟨rfl, rfl⟩
theorem isItemCount_any (n : Int) (w : World) : Calls Try.prog 49 #[.int .i64 n] w fun e w' => e = .returned (.bool (inB n 0 12)) ∧ w = w' := by
  by_cases h1 : 0 ≤ n
  · by_cases h2 : n ≤ 12
    all_goals
      go_enter Try.func49, Try.ntmps49
      go_wp2
      go_ret
      exact ⟨by simp [inB]; omega, rfl⟩
  · go_enter Try.func49, Try.ntmps49
    go_wp2
    go_ret
    exact ⟨by simp [inB]; omega, rfl⟩
theorem raFactorial_any (k : Nat) : ∀ (w : World), k < 13 → Calls Try.prog 48 #[.int .i64 (k : Int)] w fun e w' => e = .returned (.int .i64 (fact k)) ∧ w = w' := by
  induction k with
  | zero =>
    intro w _
    go_enter Try.func48, Try.ntmps48
    go_wp2_with fail
    go_ret
    exact ⟨rfl, rfl⟩
  | succ k ih =>
    intro w hk
    have hb := fact_le k (by omega)
    have hm : ((k : Int) + 1) * (fact k : Int) ≤ 479001600 := cast_mul_le (a := k + 1) (fact_le (k + 1) hk)
    have hm0 : 0 ≤ ((k : Int) + 1) * (fact k : Int) := Int.mul_nonneg (by omega) (by omega)
    have h0 : ((k : Int) + 1 == 0) = false := by simp; omega
    go_enter Try.func48, Try.ntmps48
    go_wp2_with fail
    refine (ih _ (by omega)).mono ?_
    rintro e w' ⟨rfl, rfl⟩
    go_wp2_with fail
    go_ret
    exact ⟨ret_int (by simp [fact]), rfl⟩
theorem raBinomial_any (n : Nat) : ∀ (k : Nat) (w : World), n < 13 → k < 13 → Calls Try.prog 61 #[.int .i64 (n : Int), .int .i64 (k : Int)] w fun e w' => e = .returned (.int .i64 (binom n k)) ∧ w = w' := by
  induction n with
  | zero =>
    intro k w _ hk
    cases k with
    | zero =>
      go_enter Try.func61, Try.ntmps61
      go_wp2_with fail
      go_ret
      exact ⟨rfl, rfl⟩
    | succ k =>
      have h0 : ((k : Int) + 1 == 0) = false := by simp; omega
      go_enter Try.func61, Try.ntmps61
      go_wp2_with fail
      go_ret
      exact ⟨rfl, rfl⟩
  | succ n ih =>
    intro k w hn hk
    have h1 : ((n : Int) + 1 == 0) = false := by simp; omega
    cases k with
    | zero =>
      go_enter Try.func61, Try.ntmps61
      go_wp2_with fail
      go_ret
      exact ⟨by simp [binom], rfl⟩
    | succ k =>
      have h0 : ((k : Int) + 1 == 0) = false := by simp; omega
      have b1 := binom_le n (by omega) (k + 1) hk
      have b2 := binom_le n (by omega) k (by omega)
      go_enter Try.func61, Try.ntmps61
      go_wp2_with fail
      refine (ih (k + 1) _ (by omega) (by omega)).mono ?_
      rintro e w' ⟨rfl, rfl⟩
      go_wp2_with fail
      refine (ih k _ (by omega) (by omega)).mono ?_
      rintro e w' ⟨rfl, rfl⟩
      go_wp2_with fail
      go_ret
      exact ⟨ret_int (by simp [binom]), rfl⟩
/-- the number of combinations, 0 where k is negative or greater than n -/
def chooseZ (n k : Int) : Nat := if k < 0 ∨ n < k then 0 else binom n.toNat k.toNat
theorem chooseZ_nat (n k : Nat) (hn : n < 13) (hk : k < 13) : chooseZ n k = binom n k := by
  unfold chooseZ
  by_cases h : n < k
  · rw [if_pos (by omega), binom_zero n hn k hk h]
  · rw [if_neg (by omega)]; simp
theorem choose_any (n k : Int) (w : World) (hn0 : -1 ≤ n) (hn : n < 13) : Calls Try.prog 68 #[.int .i64 n, .int .i64 k] w fun e w' => e = .returned (.int .i64 (chooseZ n k)) ∧ w = w' := by
  by_cases h : k < 0 ∨ n < k
  · by_cases h1 : k < 0
    · go_enter Try.func68, Try.ntmps68
      go_wp2
      go_ret
      exact ⟨ret_int (by unfold chooseZ; rw [if_pos (by omega)]; rfl), rfl⟩
    · have h2 : n < k := h.resolve_left h1
      go_enter Try.func68, Try.ntmps68
      go_wp2
      go_ret
      exact ⟨ret_int (by unfold chooseZ; rw [if_pos (by omega)]; rfl), rfl⟩
  · obtain ⟨k, rfl⟩ := Int.eq_ofNat_of_zero_le (show 0 ≤ k by omega)
    obtain ⟨n, rfl⟩ := Int.eq_ofNat_of_zero_le (show 0 ≤ n by omega)
    have h1 : ¬ ((n : Int) < k) := by omega
    go_enter Try.func68, Try.ntmps68
    go_wp2
    go_loop [5, 6, 15] (fun c _ i => ∃ j : Nat, j ≤ k ∧ i = .int .i64 (j : Int) ∧ c = .int .i64 (binom n j)) (fun _ _ i => 14 - (intOf i).toNat)
    case atStart => exact ⟨0, by omega, rfl, by simp [binom]⟩
    case round =>
      obtain ⟨j, hj, rfl, rfl⟩ := hrel
      by_cases hlt : j < k
      · have b1 := binom_le n (by omega) j (by omega)
        have b3 := binom_step n (by omega) j (by omega)
        have b2 := binom_mul n (by omega) j (by omega)
        have hm : (binom n j : Int) * ((n : Int) - (j : Int)) ≤ 12 * 924 := by
          have e : ((n : Int) - (j : Int)) = ((n - j : Nat) : Int) := by omega
          rw [e]
          exact cast_mul_le b2
        have hm0 : 0 ≤ (binom n j : Int) * ((n : Int) - (j : Int)) := Int.mul_nonneg (by omega) (by omega)
        have H3 : Hid (binom n j * (n - j) / (j + 1) = binom n (j + 1)) := b3
        clear b3 b2
        go_wp2
        go_round
        case rel => exact ⟨j + 1, by omega, by go_num, by
          have e : ((n : Int) - (j : Int)) = ((n - j : Nat) : Int) := by omega
          rw [← H3.out, e]; simp⟩
        case measure => simp [intOf]; omega
      · obtain rfl : j = k := by omega
        go_wp2
        go_ret
        exact ⟨ret_int (by unfold chooseZ; rw [if_neg (by omega)]; simp), rfl⟩
end Go.Proofs.Ytkphbelgamfmnaa
