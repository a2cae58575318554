/- Contracts: lastRelatedPair at isLess, lastRelated at isGreater. Conditions: the slice reads as a list. -/
import Derived.Test.YteejdagnlepegabPerm3
import Derived.Test.YteejdagnlepegabComb2
namespace Go.Proofs.Yteejdagnlepegab
set_option linter.unusedVariables false
open Go.RowKit

def overAt (xs : List Int) (x : Int) (i : Nat) : Bool := decide (x < xs.getD i 0)
theorem isLess_any5 (a b : Int) (w : World) : Calls Try.prog 45 #[.int .i64 a, .int .i64 b] w fun e w' => e = .returned (.bool (decide (a < b))) ∧ w = w' := by
  by_cases h : a < b
  all_goals
    go_enter Try.func45, Try.ntmps45
    go_wp2
    go_ret
    exact ⟨by simp; omega, rfl⟩
theorem isGreater_any5 (a b : Int) (w : World) : Calls Try.prog 47 #[.int .i64 a, .int .i64 b] w fun e w' => e = .returned (.bool (decide (b < a))) ∧ w = w' := by
  by_cases h : b < a
  all_goals
    go_enter Try.func47, Try.ntmps47
    go_wp2
    go_ret
    exact ⟨by simp; omega, rfl⟩
theorem lastRelatedPair_lt (v : Value) (xs : List Int) (w : World) (h : Reads w v xs) :
    Calls Try.prog 44 #[v, .func (.func 45) #[] #[]] w fun e w' => e = .returned (.int .i64 (lastIx (lessAt xs) (xs.length - 1))) ∧ ∃ q, w' = w.drewN q := by
  obtain ⟨ao, c, rfl, hc1, hm, h⟩ := h.view
  by_cases hl : xs.length < 2
  · have HF : Hid (lastIx (lessAt xs) (xs.length - 1) = -1) := by
      show lastIx (lessAt xs) (xs.length - 1) = -1
      rw [show xs.length - 1 = 0 by omega]; rfl
    clear h
    have hd : decide ((0 : Int) ≤ (xs.length : Int) - 2) = false := by simp; omega
    have hd2 : decide ((2 : Int) ≤ (xs.length : Int)) = false := by simp; omega
    go_enter Try.func44, Try.ntmps44
    go_wp2
    refine wp_loop_rounds 1 ?_
    rw [rounds_succ]
    go_wp2
    go_quiet (fail)
    go_wp2
    all_goals go_ret
    all_goals exact ⟨ret_int (by have := HF.out; omega), nq, rfl⟩
  · obtain ⟨b, off, rfl, hb, hc⟩ := h.resolve_left (by intro h; rw [h] at hl; simp at hl)
    go_enter Try.func44, Try.ntmps44
    go_wp2
    go_loopw [5] (fun i wr => ∃ k : Nat, k ≤ xs.length - 1 ∧ i = .int .i64 ((k : Int) - 1) ∧ lastIx (lessAt xs) (xs.length - 1) = lastIx (lessAt xs) k ∧ ∃ q, wr = w.drewN q) (fun i _ => (intOf i + 1).toNat)
    case atStart => exact ⟨xs.length - 1, Nat.le_refl _, by congr 1; omega, rfl, 0, rfl⟩
    case round =>
      obtain ⟨k, hk, rfl, hla, hq⟩ := hrel
      have HL := hid hla
      have HQ := hid hq
      clear hla hq
      cases k with
      | zero =>
        have hd : decide ((0 : Int) ≤ (-1 : Int)) = false := by decide
        rw [show (((0 : Nat) : Int) - 1) = -1 from rfl]
        clear hc
        go_wp2
        go_quiet (fail)
        go_wp2
        go_ret
        exact ⟨ret_int HL.out.symm, Drew.next HQ.out nq⟩
      | succ j =>
        rw [show (((j + 1 : Nat) : Int) - 1) = (j : Int) from by omega]
        have hd : decide ((0 : Int) ≤ (j : Int)) = true := by simp
        have hcx : wr.cell? ⟨b, off + j, none⟩ = some (.int .i64 xs[j]) := by
          obtain ⟨q, rfl⟩ := HQ.out
          exact hc j (by omega)
        have hcy : wr.cell? ⟨b, off + (j + 1), none⟩ = some (.int .i64 xs[j + 1]) := by
          obtain ⟨q, rfl⟩ := HQ.out
          exact hc (j + 1) (by omega)
        clear hc
        have q1 : (j : Int) < (xs.length : Int) := by omega
        have q2 : (0 : Int) ≤ (j : Int) := by omega
        have q3 : (j : Int) + 1 < (xs.length : Int) := by omega
        have q4 : (0 : Int) ≤ (j : Int) + 1 := by omega
        have q5 : ((j : Int) + 1).toNat = j + 1 := by omega
        have q6 : IntKind.i64.wrap ((j : Int) + 1) = (j : Int) + 1 := IntWalk.i64_in _ (by omega)
        by_cases hge : xs[j] < xs[j + 1]
        · have hb1 : decide (xs[j] < xs[j + 1]) = true := by simpa using hge
          have HF : Hid (lessAt xs j = true) := by
            show lessAt xs j = true
            rw [lessAt, getD_at (show j < xs.length by omega), getD_at (show j + 1 < xs.length by omega)]; exact hb1
          clear hge
          go_wp2
          go_quiet ((go_at_call 45; exact Calls.quiet_of_same ((isLess_any5 _ _ _).mono fun _ _ h => ⟨h.1, h.2.symm⟩)))
          go_wp2
          go_ret
          exact ⟨ret_int (by rw [HL.out, lastIx_yes HF.out]), Drew.next HQ.out nq⟩
        · have hb1 : decide (xs[j] < xs[j + 1]) = false := by simpa using hge
          have HF : Hid (lessAt xs j = false) := by
            show lessAt xs j = false
            rw [lessAt, getD_at (show j < xs.length by omega), getD_at (show j + 1 < xs.length by omega)]; exact hb1
          clear hge
          go_wp2
          go_quiet ((go_at_call 45; exact Calls.quiet_of_same ((isLess_any5 _ _ _).mono fun _ _ h => ⟨h.1, h.2.symm⟩)))
          go_wp2
          go_roundw
          case rel => exact ⟨j, by omega, rfl, by rw [HL.out, lastIx_no HF.out], Drew.next HQ.out nq⟩
          case measure => simp [intOf]; try omega
theorem lastRelated_gt (v : Value) (xs : List Int) (x : Int) (w : World) (h : Reads w v xs) :
    Calls Try.prog 46 #[v, .int .i64 x, .func (.func 47) #[] #[]] w fun e w' => e = .returned (.int .i64 (lastIx (overAt xs x) xs.length)) ∧ ∃ q, w' = w.drewN q := by
  obtain ⟨ao, c, rfl, hc1, hm, h⟩ := h.view
  have hc : ∀ (b off : Nat), True := fun _ _ => trivial
  rcases h with h | ⟨b, off, rfl, hb, hc⟩
  · subst h
    go_enter Try.func46, Try.ntmps46
    go_wp2
    refine wp_loop_rounds 1 ?_
    rw [rounds_succ]
    go_wp2
    go_ret
    exact ⟨rfl, 0, rfl⟩
  · go_enter Try.func46, Try.ntmps46
    go_wp2
    go_loopw [7] (fun i wr => ∃ k : Nat, k ≤ xs.length ∧ i = .int .i64 ((k : Int) - 1) ∧ lastIx (overAt xs x) xs.length = lastIx (overAt xs x) k ∧ ∃ q, wr = w.drewN q) (fun i _ => (intOf i + 1).toNat)
    case atStart => exact ⟨xs.length, Nat.le_refl _, rfl, rfl, 0, rfl⟩
    case round =>
      obtain ⟨k, hk, rfl, hla, hq⟩ := hrel
      have HL := hid hla
      have HQ := hid hq
      clear hla hq
      cases k with
      | zero =>
        have hd : decide ((0 : Int) ≤ (-1 : Int)) = false := by decide
        rw [show (((0 : Nat) : Int) - 1) = -1 from rfl]
        clear hc
        go_wp2
        go_ret
        exact ⟨ret_int HL.out.symm, HQ.out⟩
      | succ j =>
        rw [show (((j + 1 : Nat) : Int) - 1) = (j : Int) from by omega]
        have hd : decide ((0 : Int) ≤ (j : Int)) = true := by simp
        have hcx : wr.cell? ⟨b, off + j, none⟩ = some (.int .i64 xs[j]) := by
          obtain ⟨q, rfl⟩ := HQ.out
          exact hc j (by omega)
        clear hc
        have q1 : (j : Int) < (xs.length : Int) := by omega
        have q2 : (0 : Int) ≤ (j : Int) := by omega
        by_cases hge : x < xs[j]
        · have hb1 : decide (x < xs[j]) = true := by simpa using hge
          have HF : Hid (overAt xs x j = true) := by
            show overAt xs x j = true
            rw [overAt, getD_at (show j < xs.length by omega)]; exact hb1
          clear hge
          go_wp2_with (go_at_call 47; refine (isGreater_any5 _ _ _).mono ?_; rintro e w' ⟨rfl, rfl⟩)
          go_ret
          exact ⟨ret_int (by rw [HL.out, lastIx_yes HF.out]), HQ.out⟩
        · have hb1 : decide (x < xs[j]) = false := by simpa using hge
          have HF : Hid (overAt xs x j = false) := by
            show overAt xs x j = false
            rw [overAt, getD_at (show j < xs.length by omega)]; exact hb1
          clear hge
          go_wp2_with (go_at_call 47; refine (isGreater_any5 _ _ _).mono ?_; rintro e w' ⟨rfl, rfl⟩)
          go_roundw
          case rel => exact ⟨j, by omega, rfl, by rw [HL.out, lastIx_no HF.out], HQ.out⟩
          case measure => simp [intOf]; try omega
end Go.Proofs.Yteejdagnlepegab
