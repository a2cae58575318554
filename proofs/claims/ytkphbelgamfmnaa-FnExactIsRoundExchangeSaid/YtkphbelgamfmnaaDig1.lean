/- Contracts: l1All, raProduct, raBases, raDigits, productOf and both DigitsAt functions. Conditions: the slice reads as a list of at most 2^20 numbers. -/
import Derived.Test.YtkphbelgamfmnaaDigMath
import Derived.Test.YtkphbelgamfmnaaPerm3
namespace Go.Proofs.Ytkphbelgamfmnaa
open Go.RowKit
set_option linter.unusedVariables false

theorem l1All_any (v : Value) (xs : List Int) (lo hi : Int) (w : World) (h : Sits w v xs) :
    Calls Try.prog 53 #[v, .int .i64 lo, .int .i64 hi] w fun e w' => e = .returned (.bool (allTo xs.length (fun i => inB (xs.getD i 0) lo hi))) ∧ w = w' := by
  obtain ⟨b, off, c, rfl, hc1, hm, hb, hc⟩ := h
  go_enter Try.func53, Try.ntmps53
  go_wp2
  go_loop [8, 11] (fun _ i => ∃ k : Nat, k ≤ xs.length ∧ i = .int .i64 k ∧ allTo k (fun i => inB (xs.getD i 0) lo hi) = true) (fun _ i => xs.length - (intOf i).toNat)
  case atStart => exact ⟨0, Nat.zero_le _, rfl, rfl⟩
  case round =>
    obtain ⟨k, hk, rfl, hall⟩ := hrel
    have HA := hid hall
    clear hall
    by_cases hlt : k < xs.length
    · have hcx := hc k hlt
      clear hc
      by_cases hin : inB xs[k] lo hi = true
      · have HF : Hid (inB (xs.getD k 0) lo hi = true) := by
          show inB (xs.getD k 0) lo hi = true
          rw [getD_at hlt, hin]
        go_wp2_with (go_at_call 46; refine (l1In_any _ _ _ _).mono ?_; rintro e w' ⟨rfl, rfl⟩)
        go_round
        case rel => exact ⟨k + 1, by omega, by go_num, allTo_next (f := fun i => inB (xs.getD i 0) lo hi) HA.out HF.out⟩
        case measure => simp [intOf]; omega
      · have hin : inB xs[k] lo hi = false := by simpa using hin
        have HF : Hid (inB (xs.getD k 0) lo hi = false) := by
          show inB (xs.getD k 0) lo hi = false
          rw [getD_at hlt, hin]
        go_wp2_with (go_at_call 46; refine (l1In_any _ _ _ _).mono ?_; rintro e w' ⟨rfl, rfl⟩)
        go_ret
        exact ⟨ret_bool (allTo_no (f := fun i => inB (xs.getD i 0) lo hi) hlt HF.out).symm, rfl⟩
    · obtain rfl : k = xs.length := by omega
      go_wp2
      go_ret
      exact ⟨ret_bool HA.out.symm, rfl⟩
def ProdIs (xs : List Int) (p : Int) : Prop := (prodTo xs xs.length ≤ 1000000 ∧ p = prodTo xs xs.length) ∨ (1000000 < prodTo xs xs.length ∧ 1000000 < p)
theorem ProdIs.dec {xs : List Int} {p : Int} (h : ProdIs xs p) : decide (p ≤ 1000000) = decide (prodTo xs xs.length ≤ 1000000) := by
  rcases h with ⟨h1, rfl⟩ | ⟨h1, h2⟩
  · rfl
  · rw [decide_eq_false (by omega), decide_eq_false (by omega)]
def ProdEnd (xs : List Int) (w : World) (e : Ending) (w' : World) : Prop := ∃ p, e = .returned (.int .i64 p) ∧ ProdIs xs p ∧ w = w'
theorem prod_facts {xs : List Int} (hall : allBases xs = true) {k : Nat} (hlt : k < xs.length) (hle : prodTo xs k ≤ 8916100448256) :
    0 ≤ prodTo xs k * xs[k] ∧ prodTo xs k * xs[k] ≤ 106993205379072 ∧ prodTo xs (k + 1) = prodTo xs k * xs[k] ∧ 2 ≤ xs[k] ∧ xs[k] ≤ 12 ∧ 1 ≤ prodTo xs k := by
  have h1 := base_range hall hlt
  rw [getD_at hlt] at h1
  have h2 := prodTo_pos (allTo_mono hall (show k ≤ xs.length by omega))
  have h3 := Int.mul_nonneg (show 0 ≤ prodTo xs k by omega) (show 0 ≤ xs[k] by omega)
  have h4 := Int.mul_le_mul hle h1.2 (by omega) (by omega)
  refine ⟨h3, by omega, ?_, h1.1, h1.2, h2⟩
  rw [prodTo, getD_at hlt]
theorem raProduct_any (v : Value) (xs : List Int) (w : World) (h : Sits w v xs) (hall : allBases xs = true) :
    Calls Try.prog 29 #[v] w (ProdEnd xs w) := by
  obtain ⟨b, off, c, rfl, hc1, hm, hb, hc⟩ := h
  have HALL := hid hall
  clear hall
  go_enter Try.func29, Try.ntmps29
  go_wp2
  go_loop [3, 5, 8] (fun p _ i => ∃ k : Nat, k ≤ xs.length ∧ i = .int .i64 k ∧ p = .int .i64 (prodTo xs k) ∧ prodTo xs k ≤ 1000000) (fun _ _ i => xs.length - (intOf i).toNat)
  case atStart => exact ⟨0, Nat.zero_le _, rfl, rfl, by simp [prodTo]⟩
  case round =>
    obtain ⟨k, hk, rfl, rfl, hle⟩ := hrel
    by_cases hlt : k < xs.length
    · have hcx := hc k hlt
      obtain ⟨m0, m1, m2, m3, m4, m5⟩ := prod_facts HALL.out hlt (by omega)
      have HS := hid m2
      have hmo := prodTo_mono HALL.out (show k + 1 ≤ xs.length by omega)
      rw [m2] at hmo
      have HM := hid hmo
      clear hc m2 hmo
      by_cases hbig : 1000000 < prodTo xs k * xs[k]
      · go_wp2
        go_ret
        exact ⟨_, rfl, .inr ⟨by have := HM.out; omega, hbig⟩, rfl⟩
      · go_wp2
        go_round
        case rel => exact ⟨k + 1, by omega, by go_num, by rw [HS.out], by rw [HS.out]; omega⟩
        case measure => simp [intOf]; omega
    · obtain rfl : k = xs.length := by omega
      go_wp2
      go_ret
      exact ⟨_, rfl, .inl ⟨hle, rfl⟩, rfl⟩
theorem raBases_any (v : Value) (xs : List Int) (w : World) (h : Sits w v xs) :
    Calls Try.prog 28 #[v] w fun e w' => e = .returned (.bool (basesB xs)) ∧ w = w' := by
  have HS := hid h
  obtain ⟨b, off, c, rfl, hc1, hm, hb, hc⟩ := h
  clear hc
  by_cases h1 : xs.length ≤ 12
  · by_cases h2 : allTo xs.length (fun i => inB (xs.getD i 0) 2 12) = true
    · have HF : Hid (basesB xs = decide (prodTo xs xs.length ≤ 1000000)) := by
        show basesB xs = _
        rw [basesB, decide_eq_true h1]
        have : allBases xs = true := h2
        rw [this]; simp
      have HA : Hid (allBases xs = true) := hid h2
      go_enter Try.func28, Try.ntmps28
      go_wp2_with (first | (go_at_call 53; refine (l1All_any _ xs _ _ _ HS.out).mono ?_; rintro e w' ⟨rfl, rfl⟩) | (go_at_call 29; refine (raProduct_any _ xs _ HS.out HA.out).mono ?_; rintro e w' ⟨p, rfl, hpi, rfl⟩))
      go_ret
      exact ⟨ret_bool (by rw [HF.out]; exact ProdIs.dec (by assumption)), rfl⟩
    · have h2 : allTo xs.length (fun i => inB (xs.getD i 0) 2 12) = false := by simpa using h2
      have HF : Hid (basesB xs = false) := by
        show basesB xs = false
        have : allBases xs = false := h2
        rw [basesB, this]; simp
      go_enter Try.func28, Try.ntmps28
      go_wp2_with (first | (go_at_call 53; refine (l1All_any _ xs _ _ _ HS.out).mono ?_; rintro e w' ⟨rfl, rfl⟩))
      go_ret
      exact ⟨ret_bool HF.out.symm, rfl⟩
  · have HF : Hid (basesB xs = false) := by
      show basesB xs = false
      rw [basesB, decide_eq_false h1]; rfl
    go_enter Try.func28, Try.ntmps28
    go_wp2_with fail
    go_ret
    exact ⟨ret_bool HF.out.symm, rfl⟩
def prodRes (xs : List Int) : Int := if basesB xs = true then prodTo xs xs.length else 0
theorem prodRes_yes {xs : List Int} (h : basesB xs = true) : prodRes xs = prodTo xs xs.length := by unfold prodRes; rw [if_pos h]
theorem prodRes_no {xs : List Int} (h : basesB xs = false) : prodRes xs = 0 := by unfold prodRes; rw [if_neg (by rw [h]; simp)]
theorem productOf_any (v : Value) (xs : List Int) (w : World) (h : Sits w v xs) :
    Calls Try.prog 33 #[v] w fun e w' => e = .returned (.tuple #[.int .i64 (prodRes xs), .bool (basesB xs)]) ∧ w = w' := by
  obtain ⟨b, off, c, rfl, hc1, hm, hb, hc⟩ := h
  by_cases h1 : xs.length ≤ 12
  · go_enter Try.func33, Try.ntmps33
    go_wp2
    go_loop [4, 6, 12] (fun p _ i => ∃ k : Nat, k ≤ xs.length ∧ i = .int .i64 k ∧ p = .int .i64 (prodTo xs k) ∧ allTo k (baseAt xs) = true) (fun _ _ i => xs.length - (intOf i).toNat)
    case atStart => exact ⟨0, Nat.zero_le _, rfl, rfl, rfl⟩
    case round =>
      obtain ⟨k, hk, rfl, rfl, hall⟩ := hrel
      have hp1 := prodTo_pos hall
      have hp2 := prodTo_bound hall (by omega)
      have HA := hid hall
      clear hall
      by_cases hlt : k < xs.length
      · have hcx := hc k hlt
        clear hc
        by_cases h2 : xs[k] < 2
        · have HF : Hid (basesB xs = false) := by
            show basesB xs = false
            have : allBases xs = false := allTo_no hlt (by rw [baseAt, getD_at hlt]; simp [inB]; omega)
            rw [basesB, this]; simp
          go_wp2
          go_ret2
          exact ⟨ret_nb (prodRes_no HF.out).symm HF.out.symm, rfl⟩
        · by_cases h3 : 12 < xs[k]
          · have HF : Hid (basesB xs = false) := by
              show basesB xs = false
              have : allBases xs = false := allTo_no hlt (by rw [baseAt, getD_at hlt]; simp [inB]; omega)
              rw [basesB, this]; simp
            go_wp2
            go_ret2
            exact ⟨ret_nb (prodRes_no HF.out).symm HF.out.symm, rfl⟩
          · have m0 := Int.mul_nonneg (show 0 ≤ prodTo xs k by omega) (show 0 ≤ xs[k] by omega)
            have m1 := Int.mul_le_mul hp2 (show xs[k] ≤ 12 by omega) (by omega) (by omega)
            have m2 : prodTo xs k * xs[k] ≤ 106993205379072 := by omega
            have HN := hid (allTo_next HA.out (show baseAt xs k = true by rw [baseAt, getD_at hlt]; simp [inB]; omega))
            clear m1
            go_wp2
            go_round
            case rel => exact ⟨k + 1, by omega, by go_num, by rw [prodTo, getD_at hlt], HN.out⟩
            case measure => simp [intOf]; omega
      · obtain rfl : k = xs.length := by omega
        have h12 := hid h1
        by_cases hbig : 1000000 < prodTo xs xs.length
        · have HF : Hid (basesB xs = false) := by
            show basesB xs = false
            rw [basesB, decide_eq_false (show ¬ prodTo xs xs.length ≤ 1000000 by omega)]; simp
          go_wp2
          go_ret2
          exact ⟨ret_nb (prodRes_no HF.out).symm HF.out.symm, rfl⟩
        · have HF : Hid (basesB xs = true) := hid (basesB_iff.2 ⟨h12.out, HA.out, by omega⟩)
          go_wp2
          go_ret2
          exact ⟨ret_nb (prodRes_yes HF.out).symm HF.out.symm, rfl⟩
  · have HF : Hid (basesB xs = false) := by
      show basesB xs = false
      rw [basesB, decide_eq_false h1]; rfl
    go_enter Try.func33, Try.ntmps33
    go_wp2_with fail
    go_ret2
    exact ⟨ret_nb (prodRes_no HF.out).symm HF.out.symm, rfl⟩
end Go.Proofs.Ytkphbelgamfmnaa
