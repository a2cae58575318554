/- Contracts: l1All, raProduct, raBases, raDigits, productOf and both DigitsAt functions. Conditions: the slice reads as a list of at most 2^20 numbers. -/
import Derived.Test.YteenmndgejeihaaDigMath
import Derived.Test.YteenmndgejeihaaPerm3
namespace Go.Proofs.Yteenmndgejeihaa
open Go.RowKit
set_option linter.unusedVariables false

theorem l1All_any (v : Value) (xs : List Int) (lo hi : Int) (w : World) (h : Sits w v xs) :
    Calls Try.prog 97 #[v, .int .i64 lo, .int .i64 hi] w fun e w' => e = .returned (.bool (allTo xs.length (fun i => inB (xs.getD i 0) lo hi))) ∧ w = w' := by
  obtain ⟨b, off, c, rfl, hc1, hm, hb, hc⟩ := h
  go_enter Try.func97, Try.ntmps97
  go_wp2
  go_loop [8, 11] (fun _ i => ∃ k : Nat, k ≤ xs.length ∧ i = .int .i64 k ∧ allTo k (fun i => inB (xs.getD i 0) lo hi) = true) (fun _ i => xs.length - (intOf i).toNat)
  case atStart => exact ⟨0, Nat.zero_le _, rfl, rfl⟩
  case round =>
    obtain ⟨k, hk, rfl, hall⟩ := hrel
    have HA := hid hall
    clear hall
    by_cases hlt : k < xs.length
    · have hcx := hc k hlt
      clear hc
      by_cases hin : inB xs[k] lo hi = true
      · have HF : Hid (inB (xs.getD k 0) lo hi = true) := by
          show inB (xs.getD k 0) lo hi = true
          rw [getD_at hlt, hin]
        go_wp2_with (go_at_call 63; refine (l1In_any _ _ _ _).mono ?_; rintro e w' ⟨rfl, rfl⟩)
        go_round
        case rel => exact ⟨k + 1, by omega, by go_num, allTo_next (f := fun i => inB (xs.getD i 0) lo hi) HA.out HF.out⟩
        case measure => simp [intOf]; omega
      · have hin : inB xs[k] lo hi = false := by simpa using hin
        have HF : Hid (inB (xs.getD k 0) lo hi = false) := by
          show inB (xs.getD k 0) lo hi = false
          rw [getD_at hlt, hin]
        go_wp2_with (go_at_call 63; refine (l1In_any _ _ _ _).mono ?_; rintro e w' ⟨rfl, rfl⟩)
        go_ret
        exact ⟨ret_bool (allTo_no (f := fun i => inB (xs.getD i 0) lo hi) hlt HF.out).symm, rfl⟩
    · obtain rfl : k = xs.length := by omega
      go_wp2
      go_ret
      exact ⟨ret_bool HA.out.symm, rfl⟩
def ProdIs (xs : List Int) (p : Int) : Prop := (prodTo xs xs.length ≤ 1000000 ∧ p = prodTo xs xs.length) ∨ (1000000 < prodTo xs xs.length ∧ 1000000 < p)
theorem ProdIs.dec {xs : List Int} {p : Int} (h : ProdIs xs p) : decide (p ≤ 1000000) = decide (prodTo xs xs.length ≤ 1000000) := by
  rcases h with ⟨h1, rfl⟩ | ⟨h1, h2⟩
  · rfl
  · rw [decide_eq_false (by omega), decide_eq_false (by omega)]
def ProdEnd (xs : List Int) (w : World) (e : Ending) (w' : World) : Prop := ∃ p, e = .returned (.int .i64 p) ∧ ProdIs xs p ∧ w = w'
theorem prod_facts {xs : List Int} (hall : allBases xs = true) {k : Nat} (hlt : k < xs.length) (hle : prodTo xs k ≤ 8916100448256) :
    0 ≤ prodTo xs k * xs[k] ∧ prodTo xs k * xs[k] ≤ 106993205379072 ∧ prodTo xs (k + 1) = prodTo xs k * xs[k] ∧ 2 ≤ xs[k] ∧ xs[k] ≤ 12 ∧ 1 ≤ prodTo xs k := by
  have h1 := base_range hall hlt
  rw [getD_at hlt] at h1
  have h2 := prodTo_pos (allTo_mono hall (show k ≤ xs.length by omega))
  have h3 := Int.mul_nonneg (show 0 ≤ prodTo xs k by omega) (show 0 ≤ xs[k] by omega)
  have h4 := Int.mul_le_mul hle h1.2 (by omega) (by omega)
  refine ⟨h3, by omega, ?_, h1.1, h1.2, h2⟩
  rw [prodTo, getD_at hlt]
def prodRes (xs : List Int) : Int := if basesB xs = true then prodTo xs xs.length else 0
theorem prodRes_yes {xs : List Int} (h : basesB xs = true) : prodRes xs = prodTo xs xs.length := by unfold prodRes; rw [if_pos h]
theorem prodRes_no {xs : List Int} (h : basesB xs = false) : prodRes xs = 0 := by unfold prodRes; rw [if_neg (by rw [h]; simp)]
end Go.Proofs.Yteenmndgejeihaa
