/- Contracts: l1Has, raPermutation and both IsPermutation functions. Conditions: the slice reads as a list. -/
import Derived.Test.YtijjdidljoicfaaDoorPermMath
import Derived.Test.YtijjdidljoicfaaDoorComb2
namespace Go.Proofs.YtijjdidljoicfaaDoor
open Go.RowKit
set_option linter.unusedVariables false

/-- The beginning of a slice. -/
theorem Reads_take {w : World} {b off c : Nat} {xs : List Int} (k : Nat) (hk : k ≤ xs.length) (hc1 : xs.length ≤ c) (hm : c ≤ 9223372036854775807) (hb : b < w.heap.size)
    (hc : ∀ i (hi : i < xs.length), w.cell? ⟨b, off + i, none⟩ = some (.int .i64 xs[i])) : Reads w (.slice (some ⟨b, off, none⟩) k c) (xs.take k) := by
  have hl : (xs.take k).length = k := by simp; omega
  refine ⟨_, c, by rw [hl], by omega, by unfold maxLen; omega, .inr ⟨b, off, rfl, hb, fun i hi => ?_⟩⟩
  rw [hl] at hi
  rw [hc i (by omega)]
  simp [List.getD_eq_getElem?_getD, hi, show i < xs.length by omega]

theorem l1Has_any (v : Value) (xs : List Int) (y : Int) (w : World) (h : Reads w v xs) :
    Calls Tryd.prog 33 #[v, .int .i64 y] w fun e w' => e = .returned (.bool (hasB xs y)) ∧ w = w' := by
  obtain ⟨ao, c, rfl, hc1, hm, h⟩ := h.view
  rcases h with h | ⟨b, off, rfl, hb, hc⟩
  · subst h
    go_enter Tryd.func33, Tryd.ntmps33
    go_wp2
    refine wp_loop_rounds 1 ?_
    rw [rounds_succ]
    go_wp2
    go_ret
    exact ⟨rfl, rfl⟩
  · go_enter Tryd.func33, Tryd.ntmps33
    go_wp2
    go_loop [6, 9] (fun _ i => ∃ k : Nat, k ≤ xs.length ∧ i = .int .i64 k ∧ hasB (xs.take k) y = false) (fun _ i => xs.length - (intOf i).toNat)
    case atStart => exact ⟨0, Nat.zero_le _, rfl, rfl⟩
    case round =>
      obtain ⟨k, hk, rfl, hno⟩ := hrel
      have HN := hid hno
      clear hno
      by_cases hlt : k < xs.length
      · have hcx := hc k hlt
        clear hc
        by_cases he : xs[k] = y
        · have hb1 : (xs[k] == y) = true := by simp [he]
          have HF : Hid (hasB xs y = true) := by
            show hasB xs y = true
            rw [hasB_iff, ← he]
            exact List.getElem_mem _
          clear he
          go_wp2
          go_ret
          exact ⟨ret_bool HF.out.symm, rfl⟩
        · have hb1 : (xs[k] == y) = false := by simp [he]
          have hb2 : decide (y = xs[k]) = false := by simp; exact fun h => he h.symm
          have HF : Hid (hasB (xs.take (k + 1)) y = false) := by
            show hasB (xs.take (k + 1)) y = false
            rw [hasB_take_succ xs k hlt, HN.out, hb2]; rfl
          clear he hb2
          go_wp2
          go_round
          case rel => exact ⟨k + 1, by omega, by go_num, HF.out⟩
          case measure => simp [intOf]; omega
      · obtain rfl : k = xs.length := by omega
        have HF : Hid (hasB xs y = false) := by
          have := HN.out
          rwa [List.take_length] at this
        go_wp2
        go_ret
        exact ⟨ret_bool HF.out.symm, rfl⟩
end Go.Proofs.YtijjdidljoicfaaDoor
