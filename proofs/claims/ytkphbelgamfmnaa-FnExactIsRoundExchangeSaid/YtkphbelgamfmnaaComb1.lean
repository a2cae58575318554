/- Contracts: l1Rising, raCombination, areBelow, lastRelatedPair, and both IsCombination functions. Conditions: the slice reads as a list. -/
import Derived.Test.YtkphbelgamfmnaaListMath
import Derived.Test.YtkphbelgamfmnaaIntS
import Derived.Deep.QuietTactic
import Derived.BigQuiet
namespace Go.Proofs.Ytkphbelgamfmnaa
set_option linter.unusedVariables false
open Go.RowKit

theorem Reads.view {w : World} {v : Value} {xs : List Int} (h : Reads w v xs) : ∃ ao c, v = .slice ao xs.length c ∧ xs.length ≤ c ∧ c ≤ 9223372036854775807 ∧
    (xs = [] ∨ ∃ b off, ao = some ⟨b, off, none⟩ ∧ b < w.heap.size ∧ ∀ i (hi : i < xs.length), w.cell? ⟨b, off + i, none⟩ = some (.int .i64 xs[i])) := by
  obtain ⟨ao, c, rfl, h1, h2, h⟩ := h
  refine ⟨ao, c, rfl, h1, by unfold maxLen at h2; omega, ?_⟩
  rcases h with h | ⟨b, off, rfl, hb, hc⟩
  · exact .inl h
  · refine .inr ⟨b, off, rfl, hb, fun i hi => ?_⟩
    have := hc i hi
    simpa [List.getD_eq_getElem?_getD, hi] using this

theorem getD_at {xs : List Int} {i : Nat} (h : i < xs.length) : xs.getD i 0 = xs[i] := by simp [List.getD_eq_getElem?_getD, h]

theorem l1Rising_any (v : Value) (xs : List Int) (lo hi : Int) (w : World) (h : Reads w v xs) :
    Calls Try.prog 73 #[v, .int .i64 lo, .int .i64 hi] w fun e w' => e = .returned (.bool (risingB xs lo hi)) ∧ w = w' := by
  obtain ⟨ao, c, rfl, hc1, hm, h⟩ := h.view
  rcases h with h | ⟨b, off, rfl, hb, hc⟩
  · subst h
    go_enter Try.func73, Try.ntmps73
    go_wp2
    refine wp_loop_rounds 1 ?_
    rw [rounds_succ]
    go_wp2
    go_ret
    exact ⟨rfl, rfl⟩
  · go_enter Try.func73, Try.ntmps73
    go_wp2
    go_loop [7, 8, 11] (fun _ _ i => ∃ k : Nat, k ≤ xs.length ∧ i = .int .i64 k ∧ allTo k (riseAt xs lo hi) = true) (fun _ _ i => xs.length - (intOf i).toNat)
    case atStart => exact ⟨0, Nat.zero_le _, rfl, rfl⟩
    case round =>
      obtain ⟨k, hk, rfl, hall⟩ := hrel
      have HA := hid hall
      clear hall
      by_cases hlt : k < xs.length
      · have hcx := hc k hlt
        by_cases hin : inB xs[k] lo hi = true
        · by_cases hk0 : k = 0
          · subst hk0
            rw [Nat.add_zero] at hcx
            clear hc
            go_wp2_with (go_at_call 46; refine (l1In_any _ _ _ _).mono ?_; rintro e w' ⟨rfl, rfl⟩)
            go_round
            case rel => exact ⟨0 + 1, by omega, by go_num, allTo_next HA.out (by rw [riseAt, getD_at hlt, hin]; rfl)⟩
            case measure => simp [intOf]; omega
          · have hcy := hc (k - 1) (by omega)
            have hkp : (0 : Int) < (k : Int) := by omega
            have e1 : ((k : Int) - 1).toNat = k - 1 := by omega
            have e2 : 1 ≤ k := by omega
            clear hc hk0
            by_cases hle : xs[k] ≤ xs[k - 1]
            · have HF : Hid (riseAt xs lo hi k = false) := by
                show riseAt xs lo hi k = false
                rw [riseAt, getD_at hlt, getD_at (show k - 1 < xs.length by omega), hin]
                simp; omega
              go_wp2_with (go_at_call 46; refine (l1In_any _ _ _ _).mono ?_; rintro e w' ⟨rfl, rfl⟩)
              go_ret
              exact ⟨ret_bool (allTo_no hlt HF.out).symm, rfl⟩
            · have HF : Hid (riseAt xs lo hi k = true) := by
                show riseAt xs lo hi k = true
                rw [riseAt, getD_at hlt, getD_at (show k - 1 < xs.length by omega), hin]
                simp; omega
              go_wp2_with (go_at_call 46; refine (l1In_any _ _ _ _).mono ?_; rintro e w' ⟨rfl, rfl⟩)
              go_round
              case rel => exact ⟨k + 1, by omega, by go_num, allTo_next HA.out HF.out⟩
              case measure => simp [intOf]; omega
        · have hin : inB xs[k] lo hi = false := by simpa using hin
          have HF : Hid (riseAt xs lo hi k = false) := by
            show riseAt xs lo hi k = false
            rw [riseAt, getD_at hlt, hin]; rfl
          clear hc
          go_wp2_with (go_at_call 46; refine (l1In_any _ _ _ _).mono ?_; rintro e w' ⟨rfl, rfl⟩)
          go_ret
          exact ⟨ret_bool (allTo_no hlt HF.out).symm, rfl⟩
      · obtain rfl : k = xs.length := by omega
        go_wp2
        go_ret
        exact ⟨ret_bool HA.out.symm, rfl⟩
theorem raCombination_any (n : Int) (v : Value) (xs : List Int) (w : World) (h : Reads w v xs) :
    Calls Try.prog 58 #[.int .i64 n, v] w fun e w' => e = .returned (.bool (combB n xs)) ∧ w = w' := by
  have h' := h
  obtain ⟨ao, c, rfl, hc1, hm, _⟩ := h'
  unfold maxLen at hm
  have H := hid h
  clear h
  by_cases h1 : inB n 0 12 = true
  · have hb := inB_iff.1 h1
    obtain ⟨hb1, hb2⟩ := hb
    by_cases h2 : (xs.length : Int) ≤ n
    · have HF : Hid (combB n xs = risingB xs 0 (n - 1)) := by show combB n xs = _; simp [combB, h1, h2]
      go_enter Try.func58, Try.ntmps58
      go_wp2_with (first | (go_at_call 57; refine (raItems_any _ _).mono ?_; rintro e w' ⟨rfl, rfl⟩) | (go_at_call 73; refine (l1Rising_any _ _ _ _ _ H.out).mono ?_; rintro e w' ⟨rfl, rfl⟩))
      go_ret
      exact ⟨ret_bool HF.out.symm, rfl⟩
    · have HF : Hid (combB n xs = false) := by show combB n xs = _; simp [combB, h1, h2]
      go_enter Try.func58, Try.ntmps58
      go_wp2_with (first | (go_at_call 57; refine (raItems_any _ _).mono ?_; rintro e w' ⟨rfl, rfl⟩))
      go_ret
      exact ⟨ret_bool HF.out.symm, rfl⟩
  · have h1 : inB n 0 12 = false := by simpa using h1
    have HF : Hid (combB n xs = false) := by show combB n xs = _; simp [combB, h1]
    go_enter Try.func58, Try.ntmps58
    go_wp2_with (first | (go_at_call 57; refine (raItems_any _ _).mono ?_; rintro e w' ⟨rfl, rfl⟩))
    go_ret
    exact ⟨ret_bool HF.out.symm, rfl⟩
theorem areBelow_any (v : Value) (xs : List Int) (n : Int) (w : World) (h : Reads w v xs) :
    Calls Try.prog 50 #[v, .int .i64 n] w fun e w' => e = .returned (.bool (belowB xs n)) ∧ w = w' := by
  obtain ⟨ao, c, rfl, hc1, hm, h⟩ := h.view
  rcases h with h | ⟨b, off, rfl, hb, hc⟩
  · subst h
    go_enter Try.func50, Try.ntmps50
    go_wp2
    refine wp_loop_rounds 1 ?_
    rw [rounds_succ]
    go_wp2
    go_ret
    exact ⟨rfl, rfl⟩
  · go_enter Try.func50, Try.ntmps50
    go_wp2
    go_loop [6, 9] (fun _ i => ∃ k : Nat, k ≤ xs.length ∧ i = .int .i64 k ∧ allTo k (fun i => inB (xs.getD i 0) 0 (n - 1)) = true) (fun _ i => xs.length - (intOf i).toNat)
    case atStart => exact ⟨0, Nat.zero_le _, rfl, rfl⟩
    case round =>
      obtain ⟨k, hk, rfl, hall⟩ := hrel
      have HA := hid hall
      clear hall
      by_cases hlt : k < xs.length
      · have hcx := hc k hlt
        clear hc
        by_cases h0 : xs[k] < 0
        · have HF : Hid (inB (xs.getD k 0) 0 (n - 1) = false) := by
            show inB (xs.getD k 0) 0 (n - 1) = false
            rw [getD_at hlt]; simp [inB]; omega
          go_wp2
          go_ret
          exact ⟨ret_bool (allTo_no (f := fun i => inB (xs.getD i 0) 0 (n - 1)) hlt HF.out).symm, rfl⟩
        · by_cases h1 : n ≤ xs[k]
          · have HF : Hid (inB (xs.getD k 0) 0 (n - 1) = false) := by
              show inB (xs.getD k 0) 0 (n - 1) = false
              rw [getD_at hlt]; simp [inB]; omega
            go_wp2
            go_ret
            exact ⟨ret_bool (allTo_no (f := fun i => inB (xs.getD i 0) 0 (n - 1)) hlt HF.out).symm, rfl⟩
          · have HF : Hid (inB (xs.getD k 0) 0 (n - 1) = true) := by
              show inB (xs.getD k 0) 0 (n - 1) = true
              rw [getD_at hlt]; simp [inB]; omega
            go_wp2
            go_round
            case rel => exact ⟨k + 1, by omega, by go_num, allTo_next (f := fun i => inB (xs.getD i 0) 0 (n - 1)) HA.out HF.out⟩
            case measure => simp [intOf]; omega
      · obtain rfl : k = xs.length := by omega
        go_wp2
        go_ret
        exact ⟨ret_bool HA.out.symm, rfl⟩
theorem isAtLeast_any (a b : Int) (w : World) : Calls Try.prog 80 #[.int .i64 a, .int .i64 b] w fun e w' => e = .returned (.bool (decide (b ≤ a))) ∧ w = w' := by
  by_cases h : b ≤ a
  all_goals
    go_enter Try.func80, Try.ntmps80
    go_wp2
    go_ret
    exact ⟨by simp; omega, rfl⟩
end Go.Proofs.Ytkphbelgamfmnaa
