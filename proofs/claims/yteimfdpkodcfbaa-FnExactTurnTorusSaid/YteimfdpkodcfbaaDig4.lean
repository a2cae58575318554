/- Contracts: raAreDigits, areDigits, raNumber, and both RankOfDigits functions. Conditions: the slices read as lists of at most 2^20 numbers. -/
import Derived.Test.YteimfdpkodcfbaaBs2
namespace Go.Proofs.Yteimfdpkodcfbaa
open Go.RowKit
set_option linter.unusedVariables false

def digAt (xs ys : List Int) (i : Nat) : Bool := inB (ys.getD i 0) 0 (xs.getD i 0 - 1)
theorem areDig_len {xs ys : List Int} (h : ys.length = xs.length) : areDig xs ys = allTo ys.length (digAt xs ys) := by
  rw [areDig, decide_eq_true h, Bool.true_and]; rfl
theorem areDig_no {xs ys : List Int} (h : ¬ ys.length = xs.length) : areDig xs ys = false := by rw [areDig, decide_eq_false h]; rfl
theorem areDigits_any (v u : Value) (xs ys : List Int) (w : World) (h : Sits w v xs) (h' : Sits w u ys) (hall : allBases xs = true) :
    Calls Try.prog 161 #[v, u] w fun e w' => e = .returned (.bool (areDig xs ys)) ∧ w = w' := by
  have HALL := hid hall
  obtain ⟨b, off, c, rfl, hc1, hm, hb, hc⟩ := h
  obtain ⟨b', off', c', rfl, hc1', hm', hb', hc'⟩ := h'
  have HC := hid hc
  have HC' := hid hc'
  clear hc hc' hall
  by_cases hl : ys.length = xs.length
  · have HL := hid hl
    have HF := hid (areDig_len hl)
    have hb1 : ((ys.length : Int) != (xs.length : Int)) = false := by simp [hl]
    have hl1 : ys.length ≤ xs.length := by omega
    clear hl
    go_enter Try.func161, Try.ntmps161
    go_wp2
    go_loop [5, 6, 14] (fun _ _ i => ∃ k : Nat, k ≤ ys.length ∧ i = .int .i64 k ∧ allTo k (digAt xs ys) = true) (fun _ _ i => ys.length - (intOf i).toNat)
    case atStart => exact ⟨0, Nat.zero_le _, rfl, rfl⟩
    case round =>
      obtain ⟨k, hk, rfl, hall⟩ := hrel
      have HA := hid hall
      clear hall
      by_cases hlt : k < ys.length
      · have hlt' : k < xs.length := by omega
        have hcx := HC.out k hlt'
        have hcy := HC'.out k hlt
        have HG := hid (show digAt xs ys k = inB ys[k] 0 (xs[k] - 1) by rw [digAt, getD_at hlt, getD_at hlt'])
        by_cases h0 : ys[k] < 0
        · have HN : Hid (digAt xs ys k = false) := by
            show digAt xs ys k = false
            rw [HG.out]; simp [inB]; omega
          go_wp2
          go_ret
          exact ⟨ret_bool (by rw [HF.out, allTo_no hlt HN.out]), rfl⟩
        · by_cases h1 : xs[k] ≤ ys[k]
          · have HN : Hid (digAt xs ys k = false) := by
              show digAt xs ys k = false
              rw [HG.out]; simp [inB]; omega
            go_wp2
            go_ret
            exact ⟨ret_bool (by rw [HF.out, allTo_no hlt HN.out]), rfl⟩
          · have HN : Hid (digAt xs ys k = true) := by
              show digAt xs ys k = true
              rw [HG.out]; simp [inB]; omega
            go_wp2
            go_round
            case rel => exact ⟨k + 1, by omega, by go_num, allTo_next HA.out HN.out⟩
            case measure => simp [intOf]; omega
      · obtain rfl : k = ys.length := by omega
        go_wp2
        go_ret
        exact ⟨ret_bool (by rw [HF.out, HA.out]), rfl⟩
  · have HF := hid (areDig_no hl)
    have hb1 : ((ys.length : Int) != (xs.length : Int)) = true := by simp; omega
    clear hl
    go_enter Try.func161, Try.ntmps161
    go_wp2
    go_ret
    exact ⟨ret_bool HF.out.symm, rfl⟩
theorem num_facts {xs ys : List Int} (hb : basesB xs = true) (hd : areDig xs ys = true) {k : Nat} (hk : k < ys.length) (hk' : k < xs.length) :
    0 ≤ numTo xs ys k ∧ numTo xs ys k * xs[k] + ys[k] ≤ 1000000 ∧ 0 ≤ numTo xs ys k * xs[k] ∧ numTo xs ys k * xs[k] ≤ 1000000 ∧ 0 ≤ ys[k] ∧ ys[k] ≤ 12 ∧ 2 ≤ xs[k] ∧ xs[k] ≤ 12 ∧ numTo xs ys k ≤ 1000000 := by
  obtain ⟨k1, k2, k3⟩ := basesB_iff.1 hb
  have h1 := numTo_range k2 hd k (by omega)
  have h2 := numTo_range k2 hd (k + 1) (by omega)
  have h3 := prodTo_mono k2 (show k + 1 ≤ xs.length by omega)
  have h6 := prodTo_mono k2 (show k ≤ xs.length by omega)
  have h4 := base_range k2 hk'
  have h5 : 0 ≤ ys.getD k 0 ∧ ys.getD k 0 ≤ xs.getD k 0 - 1 := by
    simp only [areDig, Bool.and_eq_true] at hd
    exact inB_iff.1 ((allTo_iff _ _).1 hd.2 k hk)
  rw [getD_at hk, getD_at hk'] at h5
  rw [getD_at hk'] at h4
  rw [numTo, getD_at hk, getD_at hk'] at h2
  have h7 := Int.mul_nonneg h1.1 (show 0 ≤ xs[k] by omega)
  omega
theorem rankRes_yes {xs ys : List Int} (h : rankB xs ys = true) : rankRes xs ys = numTo xs ys ys.length := by unfold rankRes; rw [if_pos h]
theorem rankRes_no {xs ys : List Int} (h : rankB xs ys = false) : rankRes xs ys = 0 := by unfold rankRes; rw [if_neg (by rw [h]; simp)]
theorem impl_RankOfDigits_any (v u : Value) (xs ys : List Int) (w : World) (h : Sits w v xs) (h' : Sits w u ys) :
    Calls Try.prog 130 #[v, u] w fun e w' => e = .returned (.tuple #[.int .i64 (rankRes xs ys), .bool (rankB xs ys)]) ∧ Below w.heap.size w w' := by
  have HS := hid h
  have HS' := hid h'
  obtain ⟨b, off, c, rfl, hc1, hm, hb0, hc⟩ := h
  obtain ⟨b', off', c', rfl, hc1', hm', hb', hc'⟩ := h'
  have HC := hid hc
  have HC' := hid hc'
  clear hc hc'
  by_cases h1 : basesB xs = true
  · have HA := hid (basesB_iff.1 h1).2.1
    have HB := hid h1
    by_cases h2 : areDig xs ys = true
    · have HF : Hid (rankB xs ys = true) := by
        show rankB xs ys = true
        rw [rankB, h1, h2]; rfl
      have HD := hid h2
      have hl : ys.length ≤ xs.length := by
        have := h2
        simp only [areDig, Bool.and_eq_true, decide_eq_true_eq] at this
        omega
      go_enter Try.func130, Try.ntmps130
      go_wp2_with (first | (go_at_call 160; refine (productOf_any _ xs _ HS.out).mono ?_; rintro e w' ⟨rfl, rfl⟩) | (go_at_call 161; refine (areDigits_any _ _ xs ys _ HS.out HS'.out HA.out).mono ?_; rintro e w' ⟨rfl, rfl⟩))
      go_loop [8, 9, 10, 26] (fun n _ _ i => ∃ k : Nat, k ≤ ys.length ∧ i = .int .i64 k ∧ n = .int .i64 (numTo xs ys k)) (fun _ _ _ i => ys.length - (intOf i).toNat)
      case atStart => exact ⟨0, Nat.zero_le _, rfl, rfl⟩
      case round =>
        obtain ⟨k, hk, rfl, rfl⟩ := hrel
        by_cases hlt : k < ys.length
        · have hlt' : k < xs.length := by omega
          have hcx := HC.out k hlt'
          have hcy := HC'.out k hlt
          obtain ⟨f1, f2, f3, f4, f5, f6, f7, f8, f9⟩ := num_facts HB.out HD.out hlt hlt'
          go_wp2
          go_round
          case rel => exact ⟨k + 1, by omega, by go_num, by rw [numTo, getD_at hlt, getD_at hlt']⟩
          case measure => simp [intOf]; omega
        · obtain rfl : k = ys.length := by omega
          go_wp2
          go_ret2
          exact ⟨ret_nb (rankRes_yes HF.out).symm HF.out.symm, Below.refl _ _⟩
    · have h2 : areDig xs ys = false := by simpa using h2
      have HF : Hid (rankB xs ys = false) := by
        show rankB xs ys = false
        rw [rankB, h1, h2]; rfl
      go_enter Try.func130, Try.ntmps130
      go_wp2_with (first | (go_at_call 160; refine (productOf_any _ xs _ HS.out).mono ?_; rintro e w' ⟨rfl, rfl⟩) | (go_at_call 161; refine (areDigits_any _ _ xs ys _ HS.out HS'.out HA.out).mono ?_; rintro e w' ⟨rfl, rfl⟩))
      go_ret2
      exact ⟨ret_nb (rankRes_no HF.out).symm HF.out.symm, Below.refl _ _⟩
  · have h1 : basesB xs = false := by simpa using h1
    have HF : Hid (rankB xs ys = false) := by
      show rankB xs ys = false
      rw [rankB, h1]; rfl
    go_enter Try.func130, Try.ntmps130
    go_wp2_with (first | (go_at_call 160; refine (productOf_any _ xs _ HS.out).mono ?_; rintro e w' ⟨rfl, rfl⟩))
    go_ret2
    exact ⟨ret_nb (rankRes_no HF.out).symm HF.out.symm, Below.refl _ _⟩
theorem impl_RankOfDigits_law (v : Value) (xs : List Int) (u : Value) (ys : List Int) (w : World) (h : Sits w v xs) (hl : xs.length ≤ 1048576) (hw : ∀ n ∈ xs, (Lit.int .i64 n).wf = true) (h' : Sits w u ys) (hl' : ys.length ≤ 1048576) (hw' : ∀ n ∈ ys, (Lit.int .i64 n).wf = true) :
    Calls Try.prog 130 #[v, u] w fun e w' => e = .returned (.tuple #[.int .i64 (rankRes xs ys), .bool (rankB xs ys)]) ∧ Below w.heap.size w w' := impl_RankOfDigits_any v u xs ys w h h'
end Go.Proofs.Yteimfdpkodcfbaa
