/- Contracts: slices.Index, slices.Contains and canFollow. Conditions: the slice reads as a list of words of at most 10 bits. -/
import Derived.Test.YtibejgdihbbbaabDoorWalkM
namespace Go.Proofs.YtibejgdihbbbaabDoor
open Go.RowKit
set_option linter.unusedVariables false

theorem Index_any (v : Value) (xs : List Int) (y : Int) (w : World) (h : Reads w v xs) :
    Calls Tryd.prog 54 #[v, .int .i64 y] w fun e w' => (∃ r : Int, e = .returned (.int .i64 r) ∧ decide (0 ≤ r) = hasB xs y) ∧ w = w' := by
  obtain ⟨ao, c, rfl, hc1, hm, h⟩ := h.view
  rcases h with h | ⟨b, off, rfl, hb, hc⟩
  · subst h
    go_enter Tryd.func54, Tryd.ntmps54
    go_wp2
    refine wp_loop_rounds 1 ?_
    rw [rounds_succ]
    go_wp2
    go_ret
    exact ⟨⟨_, rfl, rfl⟩, rfl⟩
  · go_enter Tryd.func54, Tryd.ntmps54
    go_wp2
    go_loop [5, 8] (fun _ i => ∃ k : Nat, k ≤ xs.length ∧ i = .int .i64 k ∧ hasB (xs.take k) y = false) (fun _ i => xs.length - (intOf i).toNat)
    case atStart => exact ⟨0, Nat.zero_le _, rfl, rfl⟩
    case round =>
      obtain ⟨k, hk, rfl, hno⟩ := hrel
      have HN := hid hno
      clear hno
      by_cases hlt : k < xs.length
      · have hcx := hc k hlt
        clear hc
        by_cases he : xs[k] = y
        · have hb1 : (y == xs[k]) = true := by simp [he]
          have HF : Hid (hasB xs y = true) := by
            show hasB xs y = true
            rw [hasB_iff, ← he]
            exact List.getElem_mem _
          clear he
          go_wp2
          go_ret
          exact ⟨⟨_, rfl, by rw [HF.out]; simp⟩, rfl⟩
        · have hb1 : (y == xs[k]) = false := by simp; exact fun h => he h.symm
          have hb2 : decide (y = xs[k]) = false := by simp; exact fun h => he h.symm
          have HF : Hid (hasB (xs.take (k + 1)) y = false) := by
            show hasB (xs.take (k + 1)) y = false
            rw [hasB_take_succ xs k hlt, HN.out, hb2]; rfl
          clear he hb2
          go_wp2
          go_round
          case rel => exact ⟨k + 1, by omega, by go_num, HF.out⟩
          case measure => simp [intOf]; omega
      · obtain rfl : k = xs.length := by omega
        go_wp2
        go_ret
        refine ⟨⟨_, rfl, ?_⟩, rfl⟩
        have := HN.out
        rw [List.take_length] at this
        rw [this]; rfl
theorem Contains_any (v : Value) (xs : List Int) (y : Int) (w : World) (h : Reads w v xs) :
    Calls Tryd.prog 40 #[v, .int .i64 y] w fun e w' => e = .returned (.bool (hasB xs y)) ∧ w = w' := by
  have H := hid h
  clear h
  go_enter Tryd.func40, Tryd.ntmps40
  go_wp2_with (first | (go_at_call 54; refine (Index_any _ xs y _ H.out).mono ?_; rintro e w1 ⟨⟨r, rfl, hr⟩, rfl⟩; have HR := hid hr; clear hr) | fail)
  go_ret
  exact ⟨ret_bool HR.out, rfl⟩
theorem canFollow_any (v : Value) (p : List Int) (x : Int) (w : World) (h : Reads w v p) (hs : small p) (hx : 0 ≤ x ∧ x < 1024) (ht : TZ w) :
    Calls Tryd.prog 28 #[v, .int .i64 x] w fun e w' => e = .returned (.bool (folB p x)) ∧ w = w' := by
  obtain ⟨ao, c, rfl, hc1, hm, h⟩ := h.view
  by_cases h0 : p.length = 0
  · have HF := hid (show folB p x = true by rw [folB, decide_eq_true h0]; rfl)
    clear h
    have hl0 : ((p.length : Int) == 0) = true := by simp [h0]
    go_enter Tryd.func28, Tryd.ntmps28
    go_wp2_with fail
    go_ret
    exact ⟨ret_bool HF.out.symm, rfl⟩
  · rcases h with h | ⟨b, off, rfl, hb, hc⟩
    · exact absurd (by rw [h]; rfl) h0
    · obtain ⟨k, hk⟩ : ∃ k : Nat, p.length = k + 1 := ⟨p.length - 1, by omega⟩
      obtain ⟨y, hy, hy2⟩ := hs k (by omega)
      obtain ⟨xn, rfl⟩ : ∃ xn : Nat, x = (xn : Int) := ⟨x.toNat, by omega⟩
      have hx2 : xn < 1024 := by omega
      have HF := hid (show folB p (xn : Int) = cbB (y ^^^ xn) by
        rw [folB, decide_eq_false h0, Bool.false_or, lastN, show p.length - 1 = k by omega, hy]
        rfl)
      have hcx : w.cell? ⟨b, off + k, none⟩ = some (.int .i64 (y : Int)) := by
        have hkp : k < p.length := by omega
        rw [hc k hkp, ← hy, getD_at hkp]
      have hl1 : ((p.length : Int) == 0) = false := beq_false_of_ne (by omega)
      have hk0 : (0 : Int) ≤ (k : Int) := by omega
      have hk1 : (k : Int) < (p.length : Int) := by omega
      have hkk : (p.length : Int) - 1 = (k : Int) := by omega
      have hww : IntKind.i64.wrap ((p.length : Int) - 1) = (k : Int) := by rw [hkk]; exact IntWalk.i64_in _ (by omega)
      have hwk : IntKind.i64.wrap (k : Int) = (k : Int) := IntWalk.i64_in _ (by omega)
      have HT := hid ht
      have HK := hid hk
      have HC := hid hc
      clear hk hc hy ht hs
      go_enter Tryd.func28, Tryd.ntmps28
      go_wp2_with (first | (go_at_call 42; refine (changedBit_any y xn _ hy2 hx2 HT.out).mono ?_; rintro e w1 ⟨rfl, rfl⟩) | fail)
      go_ret
      exact ⟨ret_bool HF.out.symm, rfl⟩
end Go.Proofs.YtibejgdihbbbaabDoor
