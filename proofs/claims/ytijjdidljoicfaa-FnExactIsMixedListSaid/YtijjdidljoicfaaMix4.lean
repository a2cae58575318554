/- Contracts: both MixedRank functions. Conditions: the slices read as lists of at most 2^20 numbers. -/
import Derived.Test.YtijjdidljoicfaaMix3
namespace Go.Proofs.Ytijjdidljoicfaa
open Go.RowKit
set_option linter.unusedVariables false

theorem rankB_facts {xs ys : List Int} (h1 : basesB xs = true) (h2 : areDig xs ys = true) : xs.length ≤ 12 ∧ allBases xs = true ∧ prodL xs ≤ 1000000 ∧ okDig xs ys := by
  obtain ⟨k1, k2, k3⟩ := basesB_iff.1 h1
  rw [prodTo_prodL] at k3
  exact ⟨k1, k2, k3, okDig_of h2⟩
theorem allBases_drop {xs : List Int} (h : allBases xs = true) (k : Nat) : allBases (xs.drop k) = true := by
  have h0 := (allTo_iff _ _).1 h
  refine (allTo_iff _ _).2 (fun i hi => ?_)
  have := h0 (k + i) (by simp at hi; omega)
  simp only [baseAt] at this ⊢
  rwa [List.getD_eq_getElem?_getD, List.getElem?_drop, ← List.getD_eq_getElem?_getD]
/-- one round of the loop over the digits, from the end -/
theorem mixR_round {xs ys : List Int} (hall : allBases xs = true) (hle : prodL xs ≤ 1000000) (hd : okDig xs ys) {j : Nat} (hx : j < xs.length) (hy : j < ys.length) :
    1 ≤ prodL (xs.drop (j + 1)) ∧ prodL (xs.drop (j + 1)) ≤ 1000000 ∧ 0 ≤ mixR (xs.drop (j + 1)) (ys.drop (j + 1)) ∧ mixR (xs.drop (j + 1)) (ys.drop (j + 1)) < prodL (xs.drop (j + 1)) ∧
    0 ≤ ys[j] ∧ ys[j] ≤ 12 ∧ 0 ≤ ys[j] * prodL (xs.drop (j + 1)) ∧ ys[j] * prodL (xs.drop (j + 1)) ≤ 12000000 ∧
    0 ≤ prodL (xs.drop (j + 1)) * xs[j] ∧ prodL (xs.drop (j + 1)) * xs[j] ≤ 1000000 ∧ prodL (xs.drop j) = prodL (xs.drop (j + 1)) * xs[j] := by
  have e1 := List.drop_eq_getElem_cons hx
  have e2 := List.drop_eq_getElem_cons hy
  have h1 := allBases_drop hall j
  have h2 := prodL_drop_le (ones_of_bases hall) j
  have h3 := okDig_drop hd j
  have h4 := prodL_drop hx
  have hp0 := prodL_pos (ones_of_bases h1)
  rw [e1] at h1
  rw [e1, e2] at h3
  have h5 : prodL (xs[j] :: xs.drop (j + 1)) ≤ 1000000 := by rw [← e1]; omega
  obtain ⟨f1, f2, f3, f4, f5, f6, f7, f8⟩ := mixR_facts h1 h5 h3
  have e3 : prodL (xs.drop j) = prodL (xs.drop (j + 1)) * xs[j] := by rw [h4, Int.mul_comm]
  exact ⟨f1, f2, f3, f4, f5, f6, f7, f8, by rw [← e3]; omega, by rw [← e3]; omega, e3⟩
theorem spec_MixedRank_any (v u : Value) (xs ys : List Int) (w : World) (h : Sits w v xs) (h' : Sits w u ys) :
    Calls Try.prog 48 #[v, u] w fun e w' => e = .returned (.tuple #[.int .i64 (mrV xs ys), .bool (rankB xs ys)]) ∧ Below w.heap.size w w' := by
  have HS := hid h
  have HS' := hid h'
  clear h h'
  by_cases h1 : basesB xs = true
  · have HA := hid (basesB_iff.1 h1).2.1
    have HB := hid h1
    by_cases h2 : areDig xs ys = true
    · have HF : Hid (rankB xs ys = true) := by
        show rankB xs ys = true
        rw [rankB, h1, h2]; rfl
      have HQ := hid (rankB_facts h1 h2)
      go_enter Try.func48, Try.ntmps48
      go_wp2_with (first | (go_at_call 56; refine (raBases_any _ xs _ HS.out).mono ?_; rintro e w' ⟨rfl, rfl⟩) | (go_at_call 57; refine (raAreDigits_any _ _ xs ys _ HS.out HS'.out HA.out).mono ?_; rintro e w' ⟨rfl, rfl⟩) | (go_at_call 84; refine (gcMixedRank_any xs ys _ _ _ HS.out HS'.out HQ.out.1 HQ.out.2.1 HQ.out.2.2.1 HQ.out.2.2.2).mono ?_; rintro e w' ⟨rfl, q, rfl⟩) | fail)
      go_ret2
      exact ⟨ret_nb (mrV_yes HF.out).symm HF.out.symm, below_drewN (Below.refl _ _) _⟩
    · have h2 : areDig xs ys = false := by simpa using h2
      have HF : Hid (rankB xs ys = false) := by
        show rankB xs ys = false
        rw [rankB, h1, h2]; rfl
      go_enter Try.func48, Try.ntmps48
      go_wp2_with (first | (go_at_call 56; refine (raBases_any _ xs _ HS.out).mono ?_; rintro e w' ⟨rfl, rfl⟩) | (go_at_call 57; refine (raAreDigits_any _ _ xs ys _ HS.out HS'.out HA.out).mono ?_; rintro e w' ⟨rfl, rfl⟩) | fail)
      go_ret2
      exact ⟨ret_nb (mrV_no HF.out).symm HF.out.symm, Below.refl _ _⟩
  · have h1 : basesB xs = false := by simpa using h1
    have HF : Hid (rankB xs ys = false) := by
      show rankB xs ys = false
      rw [rankB, h1]; rfl
    go_enter Try.func48, Try.ntmps48
    go_wp2_with (first | (go_at_call 56; refine (raBases_any _ xs _ HS.out).mono ?_; rintro e w' ⟨rfl, rfl⟩) | fail)
    go_ret2
    exact ⟨ret_nb (mrV_no HF.out).symm HF.out.symm, Below.refl _ _⟩
theorem spec_MixedRank_law (v : Value) (xs : List Int) (u : Value) (ys : List Int) (w : World) (h : Sits w v xs) (hl : xs.length ≤ 1048576) (hw : ∀ n ∈ xs, (Lit.int .i64 n).wf = true) (h' : Sits w u ys) (hl' : ys.length ≤ 1048576) (hw' : ∀ n ∈ ys, (Lit.int .i64 n).wf = true) :
    Calls Try.prog 48 #[v, u] w fun e w' => e = .returned (.tuple #[.int .i64 (mrV xs ys), .bool (rankB xs ys)]) ∧ Below w.heap.size w w' := spec_MixedRank_any v u xs ys w h h'
set_option maxHeartbeats 1000000 in
theorem impl_MixedRank_any (v u : Value) (xs ys : List Int) (w : World) (h : Sits w v xs) (h' : Sits w u ys) :
    Calls Try.prog 52 #[v, u] w fun e w' => e = .returned (.tuple #[.int .i64 (mrV xs ys), .bool (rankB xs ys)]) ∧ Below w.heap.size w w' := by
  have HS := hid h
  have HS' := hid h'
  obtain ⟨b, off, c, rfl, hc1, hm, hb0, hc⟩ := h
  obtain ⟨b', off', c', rfl, hc1', hm', hb', hc'⟩ := h'
  have HC := hid hc
  have HC' := hid hc'
  clear hc hc'
  by_cases h1 : basesB xs = true
  · have HA := hid (basesB_iff.1 h1).2.1
    have HB := hid h1
    by_cases h2 : areDig xs ys = true
    · have HF : Hid (rankB xs ys = true) := by
        show rankB xs ys = true
        rw [rankB, h1, h2]; rfl
      have HQ := hid (rankB_facts h1 h2)
      have hl : ys.length = xs.length := (okDig_iff.1 HQ.out.2.2.2).1
      have HLL := hid hl
      have hl12 : ys.length ≤ 12 := by have := HQ.out.1; omega
      clear hl
      go_enter Try.func52, Try.ntmps52
      go_wp2_with (first | (go_at_call 59; refine (productOf_any _ xs _ HS.out).mono ?_; rintro e w' ⟨rfl, rfl⟩) | (go_at_call 86; refine (areDigits_any _ _ xs ys _ HS.out HS'.out HA.out).mono ?_; rintro e w' ⟨rfl, rfl⟩) | fail)
      go_loop [8, 9, 10] (fun n p i => ∃ k : Nat, k ≤ ys.length ∧ i = .int .i64 ((k : Int) - 1) ∧ n = .int .i64 (mixR (xs.drop k) (ys.drop k)) ∧ p = .int .i64 (prodL (xs.drop k))) (fun _ _ i => (intOf i + 1).toNat)
      case atStart => exact ⟨ys.length, Nat.le_refl _, by go_num, by rw [List.drop_length]; (try rw [HLL.out]); rw [List.drop_length]; rfl, by rw [HLL.out, List.drop_length]; rfl⟩
      case round =>
        obtain ⟨k, hk, rfl, rfl, rfl⟩ := hrel
        cases k with
        | zero =>
          rw [show (((0 : Nat) : Int) - 1) = -1 from rfl]
          go_wp2
          go_ret2
          exact ⟨ret_nb (mrV_yes HF.out).symm HF.out.symm, Below.refl _ _⟩
        | succ j =>
          rw [show (((j + 1 : Nat) : Int) - 1) = (j : Int) from by omega]
          have hy : j < ys.length := by omega
          have hx : j < xs.length := by rw [← HLL.out]; exact hy
          have hcx := HC.out j hx
          have hcy := HC'.out j hy
          obtain ⟨f1, f2, f3, f4, f5, f6, f7, f8, f9, f10, f11⟩ := mixR_round HQ.out.2.1 HQ.out.2.2.1 HQ.out.2.2.2 hx hy
          have F11 := hid f11
          have HR := hid (mixR_drop hx hy)
          obtain ⟨S, hS⟩ : ∃ S, S = prodL (xs.drop (j + 1)) := ⟨_, rfl⟩
          obtain ⟨m, hmm⟩ : ∃ m, m = mixR (xs.drop (j + 1)) (ys.drop (j + 1)) := ⟨_, rfl⟩
          rw [← hS] at f1 f2 f4 f7 f8 f9 f10 ⊢
          rw [← hmm] at f3 f4 ⊢
          have HSd := hid hS
          have HMd := hid hmm
          have w3 : ys[j].tmod 2 = ys[j] % 2 := Int.tmod_eq_emod_of_nonneg f5
          have w4 : IntKind.i64.wrap (S - 1 - m) = S - 1 - m := IntWalk.i64_in _ (by omega)
          have w5 : IntKind.i64.wrap (S - 1) = S - 1 := IntWalk.i64_in _ (by omega)
          have w6 : IntKind.i64.wrap (ys[j] * S) = ys[j] * S := IntWalk.i64_in _ (by omega)
          have w7 : IntKind.i64.wrap (S - 1 - m + ys[j] * S) = S - 1 - m + ys[j] * S := IntWalk.i64_in _ (by omega)
          have w8 : IntKind.i64.wrap (m + ys[j] * S) = m + ys[j] * S := IntWalk.i64_in _ (by omega)
          have w9 : IntKind.i64.wrap (S * xs[j]) = S * xs[j] := IntWalk.i64_in _ (by omega)
          have hj1 : (j : Int) < (xs.length : Int) := by omega
          have hj2 : (j : Int) < (ys.length : Int) := by omega
          clear f11 hS hmm
          by_cases ho : ys[j] % 2 = 1
          · have ho1 : (ys[j] % 2 == 1) = true := by simpa using ho
            have HE : Hid (mixR (xs.drop j) (ys.drop j) = S - 1 - m + ys[j] * S) := by
              show _ = _
              rw [HR.out, ← HSd.out, ← HMd.out, turnIf, if_pos ho, Int.add_comm]
            clear ho
            go_wp2
            go_round
            case rel => exact ⟨j, by omega, rfl, by rw [HE.out], by rw [F11.out, ← HSd.out]⟩
            case measure => simp [intOf]; try omega
          · have ho1 : (ys[j] % 2 == 1) = false := by simpa using ho
            have HE : Hid (mixR (xs.drop j) (ys.drop j) = m + ys[j] * S) := by
              show _ = _
              rw [HR.out, ← HSd.out, ← HMd.out, turnIf, if_neg ho, Int.add_comm]
            clear ho
            go_wp2
            go_round
            case rel => exact ⟨j, by omega, rfl, by rw [HE.out], by rw [F11.out, ← HSd.out]⟩
            case measure => simp [intOf]; try omega
    · have h2 : areDig xs ys = false := by simpa using h2
      have HF : Hid (rankB xs ys = false) := by
        show rankB xs ys = false
        rw [rankB, h1, h2]; rfl
      go_enter Try.func52, Try.ntmps52
      go_wp2_with (first | (go_at_call 59; refine (productOf_any _ xs _ HS.out).mono ?_; rintro e w' ⟨rfl, rfl⟩) | (go_at_call 86; refine (areDigits_any _ _ xs ys _ HS.out HS'.out HA.out).mono ?_; rintro e w' ⟨rfl, rfl⟩) | fail)
      go_ret2
      exact ⟨ret_nb (mrV_no HF.out).symm HF.out.symm, Below.refl _ _⟩
  · have h1 : basesB xs = false := by simpa using h1
    have HF : Hid (rankB xs ys = false) := by
      show rankB xs ys = false
      rw [rankB, h1]; rfl
    go_enter Try.func52, Try.ntmps52
    go_wp2_with (first | (go_at_call 59; refine (productOf_any _ xs _ HS.out).mono ?_; rintro e w' ⟨rfl, rfl⟩) | fail)
    go_ret2
    exact ⟨ret_nb (mrV_no HF.out).symm HF.out.symm, Below.refl _ _⟩
theorem impl_MixedRank_law (v : Value) (xs : List Int) (u : Value) (ys : List Int) (w : World) (h : Sits w v xs) (hl : xs.length ≤ 1048576) (hw : ∀ n ∈ xs, (Lit.int .i64 n).wf = true) (h' : Sits w u ys) (hl' : ys.length ≤ 1048576) (hw' : ∀ n ∈ ys, (Lit.int .i64 n).wf = true) :
    Calls Try.prog 52 #[v, u] w fun e w' => e = .returned (.tuple #[.int .i64 (mrV xs ys), .bool (rankB xs ys)]) ∧ Below w.heap.size w w' := impl_MixedRank_any v u xs ys w h h'
end Go.Proofs.Ytijjdidljoicfaa
