/- Contracts: slices.Index and slices.Contains. Conditions: the slice reads as a list. -/
import Derived.Test.YteimfdpkodcfbaaBs1
namespace Go.Proofs.Yteimfdpkodcfbaa
open Go.RowKit
set_option linter.unusedVariables false

theorem Index_any (v : Value) (xs : List Int) (y : Int) (w : World) (h : Reads w v xs) :
    Calls Try.prog 155 #[v, .int .i64 y] w fun e w' => (∃ r : Int, e = .returned (.int .i64 r) ∧ decide (0 ≤ r) = hasB xs y) ∧ w = w' := by
  obtain ⟨ao, c, rfl, hc1, hm, h⟩ := h.view
  rcases h with h | ⟨b, off, rfl, hb, hc⟩
  · subst h
    go_enter Try.func155, Try.ntmps155
    go_wp2
    refine wp_loop_rounds 1 ?_
    rw [rounds_succ]
    go_wp2
    go_ret
    exact ⟨⟨_, rfl, rfl⟩, rfl⟩
  · go_enter Try.func155, Try.ntmps155
    go_wp2
    go_loop [5, 8] (fun _ i => ∃ k : Nat, k ≤ xs.length ∧ i = .int .i64 k ∧ hasB (xs.take k) y = false) (fun _ i => xs.length - (intOf i).toNat)
    case atStart => exact ⟨0, Nat.zero_le _, rfl, rfl⟩
    case round =>
      obtain ⟨k, hk, rfl, hno⟩ := hrel
      have HN := hid hno
      clear hno
      by_cases hlt : k < xs.length
      · have hcx := hc k hlt
        clear hc
        by_cases he : xs[k] = y
        · have hb1 : (y == xs[k]) = true := by simp [he]
          have HF : Hid (hasB xs y = true) := by
            show hasB xs y = true
            rw [hasB_iff, ← he]
            exact List.getElem_mem _
          clear he
          go_wp2
          go_ret
          exact ⟨⟨_, rfl, by rw [HF.out]; simp⟩, rfl⟩
        · have hb1 : (y == xs[k]) = false := by simp; exact fun h => he h.symm
          have hb2 : decide (y = xs[k]) = false := by simp; exact fun h => he h.symm
          have HF : Hid (hasB (xs.take (k + 1)) y = false) := by
            show hasB (xs.take (k + 1)) y = false
            rw [hasB_take_succ xs k hlt, HN.out, hb2]; rfl
          clear he hb2
          go_wp2
          go_round
          case rel => exact ⟨k + 1, by omega, by go_num, HF.out⟩
          case measure => simp [intOf]; omega
      · obtain rfl : k = xs.length := by omega
        go_wp2
        go_ret
        refine ⟨⟨_, rfl, ?_⟩, rfl⟩
        have := HN.out
        rw [List.take_length] at this
        rw [this]; rfl
theorem Contains_any (v : Value) (xs : List Int) (y : Int) (w : World) (h : Reads w v xs) :
    Calls Try.prog 120 #[v, .int .i64 y] w fun e w' => e = .returned (.bool (hasB xs y)) ∧ w = w' := by
  have H := hid h
  clear h
  go_enter Try.func120, Try.ntmps120
  go_wp2_with (first | (go_at_call 155; refine (Index_any _ xs y _ H.out).mono ?_; rintro e w1 ⟨⟨r, rfl, hr⟩, rfl⟩; have HR := hid hr; clear hr) | fail)
  go_ret
  exact ⟨ret_bool HR.out, rfl⟩
end Go.Proofs.Yteimfdpkodcfbaa
