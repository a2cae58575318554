/- Contracts: l1Rising, raCombination, areBelow, lastRelatedPair, and both IsCombination functions. Conditions: the slice reads as a list. -/
import Derived.Test.YteenmndgejeihaaListMath
import Derived.Test.YteenmndgejeihaaIntS
import Derived.Deep.QuietTactic
import Derived.BigQuiet
namespace Go.Proofs.Yteenmndgejeihaa
set_option linter.unusedVariables false
open Go.RowKit

theorem Reads.view {w : World} {v : Value} {xs : List Int} (h : Reads w v xs) : ∃ ao c, v = .slice ao xs.length c ∧ xs.length ≤ c ∧ c ≤ 9223372036854775807 ∧
    (xs = [] ∨ ∃ b off, ao = some ⟨b, off, none⟩ ∧ b < w.heap.size ∧ ∀ i (hi : i < xs.length), w.cell? ⟨b, off + i, none⟩ = some (.int .i64 xs[i])) := by
  obtain ⟨ao, c, rfl, h1, h2, h⟩ := h
  refine ⟨ao, c, rfl, h1, by unfold maxLen at h2; omega, ?_⟩
  rcases h with h | ⟨b, off, rfl, hb, hc⟩
  · exact .inl h
  · refine .inr ⟨b, off, rfl, hb, fun i hi => ?_⟩
    have := hc i hi
    simpa [List.getD_eq_getElem?_getD, hi] using this

theorem getD_at {xs : List Int} {i : Nat} (h : i < xs.length) : xs.getD i 0 = xs[i] := by simp [List.getD_eq_getElem?_getD, h]

theorem areBelow_any (v : Value) (xs : List Int) (n : Int) (w : World) (h : Reads w v xs) :
    Calls Try.prog 98 #[v, .int .i64 n] w fun e w' => e = .returned (.bool (belowB xs n)) ∧ w = w' := by
  obtain ⟨ao, c, rfl, hc1, hm, h⟩ := h.view
  rcases h with h | ⟨b, off, rfl, hb, hc⟩
  · subst h
    go_enter Try.func98, Try.ntmps98
    go_wp2
    refine wp_loop_rounds 1 ?_
    rw [rounds_succ]
    go_wp2
    go_ret
    exact ⟨rfl, rfl⟩
  · go_enter Try.func98, Try.ntmps98
    go_wp2
    go_loop [6, 9] (fun _ i => ∃ k : Nat, k ≤ xs.length ∧ i = .int .i64 k ∧ allTo k (fun i => inB (xs.getD i 0) 0 (n - 1)) = true) (fun _ i => xs.length - (intOf i).toNat)
    case atStart => exact ⟨0, Nat.zero_le _, rfl, rfl⟩
    case round =>
      obtain ⟨k, hk, rfl, hall⟩ := hrel
      have HA := hid hall
      clear hall
      by_cases hlt : k < xs.length
      · have hcx := hc k hlt
        clear hc
        by_cases h0 : xs[k] < 0
        · have HF : Hid (inB (xs.getD k 0) 0 (n - 1) = false) := by
            show inB (xs.getD k 0) 0 (n - 1) = false
            rw [getD_at hlt]; simp [inB]; omega
          go_wp2
          go_ret
          exact ⟨ret_bool (allTo_no (f := fun i => inB (xs.getD i 0) 0 (n - 1)) hlt HF.out).symm, rfl⟩
        · by_cases h1 : n ≤ xs[k]
          · have HF : Hid (inB (xs.getD k 0) 0 (n - 1) = false) := by
              show inB (xs.getD k 0) 0 (n - 1) = false
              rw [getD_at hlt]; simp [inB]; omega
            go_wp2
            go_ret
            exact ⟨ret_bool (allTo_no (f := fun i => inB (xs.getD i 0) 0 (n - 1)) hlt HF.out).symm, rfl⟩
          · have HF : Hid (inB (xs.getD k 0) 0 (n - 1) = true) := by
              show inB (xs.getD k 0) 0 (n - 1) = true
              rw [getD_at hlt]; simp [inB]; omega
            go_wp2
            go_round
            case rel => exact ⟨k + 1, by omega, by go_num, allTo_next (f := fun i => inB (xs.getD i 0) 0 (n - 1)) HA.out HF.out⟩
            case measure => simp [intOf]; omega
      · obtain rfl : k = xs.length := by omega
        go_wp2
        go_ret
        exact ⟨ret_bool HA.out.symm, rfl⟩
end Go.Proofs.Yteenmndgejeihaa
