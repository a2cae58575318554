/- Contracts: lastRelatedPair at isAtLeast and impl.IsCombination; the walk of the law FnExactIsCombination. Conditions: the slice reads as a list. -/
import Derived.Test.YtkphbelgamfmnaaComb1
namespace Go.Proofs.Ytkphbelgamfmnaa
set_option linter.unusedVariables false
open Go.RowKit

theorem Drew.below {w w' : World} (h : ∃ q, w' = w.drewN q) (B : Nat) : Below B w w' := by
  obtain ⟨q, rfl⟩ := h
  exact below_drewN (Below.refl _ _) q

theorem Drew.next {w w' : World} (h : ∃ q, w' = w.drewN q) (n : Nat) : ∃ q, w'.drewN n = w.drewN q := by
  obtain ⟨q, rfl⟩ := h
  exact ⟨q + n, World.drewN_drewN _ _ _⟩

theorem lastRelatedPair_ge (v : Value) (xs : List Int) (w : World) (h : Reads w v xs) :
    Calls Try.prog 79 #[v, .func (.func 80) #[] #[]] w fun e w' => e = .returned (.int .i64 (lastIx (atLeastAt xs) (xs.length - 1))) ∧ ∃ q, w' = w.drewN q := by
  obtain ⟨ao, c, rfl, hc1, hm, h⟩ := h.view
  by_cases hl : xs.length < 2
  · have HF : Hid (lastIx (atLeastAt xs) (xs.length - 1) = -1) := by
      show lastIx (atLeastAt xs) (xs.length - 1) = -1
      rw [show xs.length - 1 = 0 by omega]; rfl
    clear h
    have hd : decide ((0 : Int) ≤ (xs.length : Int) - 2) = false := by simp; omega
    have hd2 : decide ((2 : Int) ≤ (xs.length : Int)) = false := by simp; omega
    go_enter Try.func79, Try.ntmps79
    go_wp2
    refine wp_loop_rounds 1 ?_
    rw [rounds_succ]
    go_wp2
    go_quiet (fail)
    go_wp2
    all_goals go_ret
    all_goals exact ⟨ret_int (by have := HF.out; omega), nq, rfl⟩
  · obtain ⟨b, off, rfl, hb, hc⟩ := h.resolve_left (by intro h; rw [h] at hl; simp at hl)
    go_enter Try.func79, Try.ntmps79
    go_wp2
    go_loopw [5] (fun i wr => ∃ k : Nat, k ≤ xs.length - 1 ∧ i = .int .i64 ((k : Int) - 1) ∧ lastIx (atLeastAt xs) (xs.length - 1) = lastIx (atLeastAt xs) k ∧ ∃ q, wr = w.drewN q) (fun i _ => (intOf i + 1).toNat)
    case atStart => exact ⟨xs.length - 1, Nat.le_refl _, by congr 1; omega, rfl, 0, rfl⟩
    case round =>
      obtain ⟨k, hk, rfl, hla, hq⟩ := hrel
      have HL := hid hla
      have HQ := hid hq
      clear hla hq
      cases k with
      | zero =>
        have hd : decide ((0 : Int) ≤ (-1 : Int)) = false := by decide
        rw [show (((0 : Nat) : Int) - 1) = -1 from rfl]
        clear hc
        go_wp2
        go_quiet (fail)
        go_wp2
        go_ret
        exact ⟨ret_int HL.out.symm, Drew.next HQ.out nq⟩
      | succ j =>
        rw [show (((j + 1 : Nat) : Int) - 1) = (j : Int) from by omega]
        have hd : decide ((0 : Int) ≤ (j : Int)) = true := by simp
        have hcx : wr.cell? ⟨b, off + j, none⟩ = some (.int .i64 xs[j]) := by
          obtain ⟨q, rfl⟩ := HQ.out
          exact hc j (by omega)
        have hcy : wr.cell? ⟨b, off + (j + 1), none⟩ = some (.int .i64 xs[j + 1]) := by
          obtain ⟨q, rfl⟩ := HQ.out
          exact hc (j + 1) (by omega)
        clear hc
        have q1 : (j : Int) < (xs.length : Int) := by omega
        have q2 : (0 : Int) ≤ (j : Int) := by omega
        have q3 : (j : Int) + 1 < (xs.length : Int) := by omega
        have q4 : (0 : Int) ≤ (j : Int) + 1 := by omega
        have q5 : ((j : Int) + 1).toNat = j + 1 := by omega
        have q6 : IntKind.i64.wrap ((j : Int) + 1) = (j : Int) + 1 := IntWalk.i64_in _ (by omega)
        by_cases hge : xs[j + 1] ≤ xs[j]
        · have hb1 : decide (xs[j + 1] ≤ xs[j]) = true := by simpa using hge
          have HF : Hid (atLeastAt xs j = true) := by
            show atLeastAt xs j = true
            rw [atLeastAt, getD_at (show j < xs.length by omega), getD_at (show j + 1 < xs.length by omega)]; exact hb1
          clear hge
          go_wp2
          go_quiet ((go_at_call 80; exact Calls.quiet_of_same ((isAtLeast_any _ _ _).mono fun _ _ h => ⟨h.1, h.2.symm⟩)))
          go_wp2
          go_ret
          exact ⟨ret_int (by rw [HL.out, lastIx_yes HF.out]), Drew.next HQ.out nq⟩
        · have hb1 : decide (xs[j + 1] ≤ xs[j]) = false := by simpa using hge
          have HF : Hid (atLeastAt xs j = false) := by
            show atLeastAt xs j = false
            rw [atLeastAt, getD_at (show j < xs.length by omega), getD_at (show j + 1 < xs.length by omega)]; exact hb1
          clear hge
          go_wp2
          go_quiet ((go_at_call 80; exact Calls.quiet_of_same ((isAtLeast_any _ _ _).mono fun _ _ h => ⟨h.1, h.2.symm⟩)))
          go_wp2
          go_roundw
          case rel => exact ⟨j, by omega, rfl, by rw [HL.out, lastIx_no HF.out], Drew.next HQ.out nq⟩
          case measure => simp [intOf]; try omega
theorem impl_IsCombination_any (n : Int) (v : Value) (xs : List Int) (w : World) (h : Reads w v xs) :
    Calls Try.prog 77 #[.int .i64 n, v] w fun e w' => e = .returned (.bool (combB n xs)) ∧ ∃ q, w' = w.drewN q := by
  rw [← combB_eq]
  have H := hid h
  clear h
  by_cases h1 : inB n 0 12 = true
  · by_cases h2 : belowB xs n = true
    · have HF : Hid (combB' n xs = decide (lastIx (atLeastAt xs) (xs.length - 1) < 0)) := by show combB' n xs = _; simp [combB', h1, h2]
      go_enter Try.func77, Try.ntmps77
      go_wp2_with (first | (go_at_call 49; refine (isItemCount_any _ _).mono ?_; rintro e w' ⟨rfl, rfl⟩) | (go_at_call 50; refine (areBelow_any _ _ _ _ H.out).mono ?_; rintro e w' ⟨rfl, rfl⟩) | (go_at_call 79; refine (lastRelatedPair_ge _ _ _ H.out).mono ?_; rintro e w' ⟨rfl, hq⟩))
      go_ret
      exact ⟨ret_bool HF.out.symm, by assumption⟩
    · have h2 : belowB xs n = false := by simpa using h2
      have HF : Hid (combB' n xs = false) := by show combB' n xs = _; simp [combB', h1, h2]
      go_enter Try.func77, Try.ntmps77
      go_wp2_with (first | (go_at_call 49; refine (isItemCount_any _ _).mono ?_; rintro e w' ⟨rfl, rfl⟩) | (go_at_call 50; refine (areBelow_any _ _ _ _ H.out).mono ?_; rintro e w' ⟨rfl, rfl⟩))
      go_ret
      exact ⟨ret_bool HF.out.symm, 0, rfl⟩
  · have h1 : inB n 0 12 = false := by simpa using h1
    have HF : Hid (combB' n xs = false) := by show combB' n xs = _; simp [combB', h1]
    go_enter Try.func77, Try.ntmps77
    go_wp2_with (first | (go_at_call 49; refine (isItemCount_any _ _).mono ?_; rintro e w' ⟨rfl, rfl⟩))
    go_ret
    exact ⟨ret_bool HF.out.symm, 0, rfl⟩
end Go.Proofs.Ytkphbelgamfmnaa
