/- Contracts: isLess, countRelated at isLess, raRank. Conditions: the slice reads as a list, of at most 12 numbers for raRank. -/
import Derived.Test.YtkphbelgamfmnaaSits
namespace Go.Proofs.Ytkphbelgamfmnaa
open Go.RowKit
set_option linter.unusedVariables false

/-- the rank of a list among all orders of its numbers -/
def rankR : List Int → Nat
  | [] => 0
  | x :: t => countLt (x :: t) x * fact t.length + rankR t
theorem countLt_cons (x : Int) (t : List Int) : countLt (x :: t) x = countLt t x := by simp [countLt]
theorem rankR_lt (xs : List Int) : rankR xs < fact xs.length := by
  induction xs with
  | nil => simp [rankR, fact]
  | cons x t ih =>
    have h1 := countLt_le t x
    rw [rankR, countLt_cons]
    have h2 : countLt t x * fact t.length ≤ t.length * fact t.length := Nat.mul_le_mul_right _ h1
    have h3 : fact (x :: t).length = t.length * fact t.length + fact t.length := by
      show (t.length + 1) * fact t.length = _
      rw [Nat.add_mul]; omega
    omega

theorem isLess_any (a b : Int) (w : World) : Calls Try.prog 52 #[.int .i64 a, .int .i64 b] w fun e w' => e = .returned (.bool (decide (a < b))) ∧ w = w' := by
  by_cases h : a < b
  all_goals
    go_enter Try.func52, Try.ntmps52
    go_wp2
    go_ret
    exact ⟨by simp; omega, rfl⟩
theorem countRelated_lt (v : Value) (xs : List Int) (x : Int) (w : World) (h : Sits w v xs) :
    Calls Try.prog 51 #[v, .int .i64 x, .func (.func 52) #[] #[]] w fun e w' => e = .returned (.int .i64 (countLt xs x)) ∧ w = w' := by
  obtain ⟨b, off, c, rfl, hc1, hm, hb, hc⟩ := h
  go_enter Try.func51, Try.ntmps51
  go_wp2
  go_loop [7, 9, 12] (fun n _ i => ∃ k : Nat, k ≤ xs.length ∧ i = .int .i64 k ∧ n = .int .i64 (countLt (xs.take k) x)) (fun _ _ i => xs.length - (intOf i).toNat)
  case atStart => exact ⟨0, Nat.zero_le _, rfl, rfl⟩
  case round =>
    obtain ⟨k, hk, rfl, rfl⟩ := hrel
    by_cases hlt : k < xs.length
    · have hcx := hc k hlt
      clear hc
      have hcl : countLt (xs.take k) x ≤ k := Nat.le_trans (countLt_le _ _) (List.length_take_le _ _)
      by_cases hx : xs[k] < x
      · have hb1 : decide (xs[k] < x) = true := by simpa using hx
        have HC := hid (countLt_yes hlt hx)
        clear hx
        go_wp2_with (go_at_call 52; refine (isLess_any _ _ _).mono ?_; rintro e w' ⟨rfl, rfl⟩)
        go_round
        case rel => exact ⟨k + 1, by omega, by go_num, by rw [HC.out]; go_num⟩
        case measure => simp [intOf]; omega
      · have hb1 : decide (xs[k] < x) = false := by simpa using hx
        have HC := hid (countLt_no hlt hx)
        clear hx
        go_wp2_with (go_at_call 52; refine (isLess_any _ _ _).mono ?_; rintro e w' ⟨rfl, rfl⟩)
        go_round
        case rel => exact ⟨k + 1, by omega, by go_num, by rw [HC.out]⟩
        case measure => simp [intOf]; omega
    · obtain rfl : k = xs.length := by omega
      go_wp2
      go_ret
      exact ⟨rfl, rfl⟩
theorem raRank_any (xs : List Int) : ∀ (v : Value) (w : World), xs.length ≤ 12 → Sits w v xs →
    Calls Try.prog 24 #[v] w fun e w' => e = .returned (.int .i64 (rankR xs)) ∧ ∃ q, w' = w.drewN q := by
  induction xs with
  | nil =>
    rintro v w _ ⟨b, off, c, rfl, hc1, hm, hb, hc⟩
    go_enter Try.func24, Try.ntmps24
    go_wp2_with fail
    go_ret
    exact ⟨rfl, 0, rfl⟩
  | cons x t ih =>
    rintro v w hl ⟨b, off, c, rfl, hc1, hm, hb, hc⟩
    have HC := hid hc
    have hl1 : t.length ≤ 11 := by simpa using hl
    have hc0 : w.cell? ⟨b, off, none⟩ = some (.int .i64 x) := by
      have h0 := hc 0 (by simp)
      rw [Nat.add_zero] at h0
      exact h0
    have hlen : (x :: t).length = t.length + 1 := rfl
    rw [hlen] at hc1 ⊢
    clear hc hl hlen
    have hne : ((t.length : Int) + 1 == 0) = false := by simp; omega
    have hcl := countLt_le (x :: t) x
    have hf1 := fact_pos t.length (by omega)
    have hf2 := fact_le t.length (by omega)
    go_enter Try.func24, Try.ntmps24
    go_wp2_with fail
    go_loop [3, 5, 11] (fun n _ i => ∃ k : Nat, k ≤ t.length + 1 ∧ i = .int .i64 k ∧ n = .int .i64 (countLt ((x :: t).take k) x)) (fun _ _ i => t.length + 1 - (intOf i).toNat)
    case atStart => exact ⟨0, Nat.zero_le _, rfl, rfl⟩
    case round =>
      obtain ⟨k, hk, rfl, rfl⟩ := hrel
      by_cases hlt : k < t.length + 1
      · have hcx : w.cell? ⟨b, off + k, none⟩ = some (.int .i64 (x :: t)[k]) := HC.out k hlt
        have hcl2 : countLt ((x :: t).take k) x ≤ k := Nat.le_trans (countLt_le _ _) (List.length_take_le _ _)
        by_cases hx : (x :: t)[k] < x
        · have HY := hid (countLt_yes (show k < (x :: t).length from hlt) hx)
          obtain ⟨y, hy⟩ : ∃ y, y = (x :: t)[k] := ⟨_, rfl⟩
          rw [← hy] at hcx hx
          clear hy
          obtain ⟨m, hm2⟩ : ∃ m, m = countLt ((x :: t).take k) x := ⟨_, rfl⟩
          rw [← hm2] at hcl2 ⊢
          have HM := hid hm2
          clear hm2
          by_cases hk0 : k = 0
          · subst hk0
            rw [Nat.add_zero] at hcx
            have e : y = x := by
              rw [hc0] at hcx
              simpa using hcx.symm
            exact absurd hx (by rw [e]; omega)
          · go_wp2_with fail
            go_round
            case rel => exact ⟨k + 1, by omega, by go_num, by rw [HY.out, ← HM.out]; go_num⟩
            case measure => simp [intOf]; omega
        · have HY := hid (countLt_no (show k < (x :: t).length from hlt) hx)
          obtain ⟨y, hy⟩ : ∃ y, y = (x :: t)[k] := ⟨_, rfl⟩
          rw [← hy] at hcx hx
          clear hy
          obtain ⟨m, hm2⟩ : ∃ m, m = countLt ((x :: t).take k) x := ⟨_, rfl⟩
          rw [← hm2] at hcl2 ⊢
          have HM := hid hm2
          clear hm2
          by_cases hk0 : k = 0
          · subst hk0
            rw [Nat.add_zero] at hcx
            have e : y = x := by
              rw [hc0] at hcx
              simpa using hcx.symm
            subst e
            go_wp2_with fail
            go_round
            case rel => exact ⟨0 + 1, by omega, by go_num, by rw [HY.out, ← HM.out]⟩
            case measure => simp [intOf]
          · go_wp2_with fail
            go_round
            case rel => exact ⟨k + 1, by omega, by go_num, by rw [HY.out, ← HM.out]⟩
            case measure => simp [intOf]; omega
      · obtain rfl : k = t.length + 1 := by omega
        have hA : (x :: t).take (t.length + 1) = x :: t := List.take_length (l := x :: t)
        rw [hA]
        obtain ⟨A, hAd⟩ : ∃ A, A = countLt (x :: t) x := ⟨_, rfl⟩
        have hr := rankR_lt (x :: t)
        have HR : Hid (rankR (x :: t) = A * fact t.length + rankR t) := by
          show rankR (x :: t) = A * fact t.length + rankR t
          rw [rankR, hAd]
        have hfx := fact_le (x :: t).length (by simp; omega)
        rw [HR.out] at hr
        have hmul : (A : Int) * (fact t.length : Int) ≤ 479001600 := cast_mul_le (c := 479001600) (by omega)
        have hmul0 : 0 ≤ (A : Int) * (fact t.length : Int) := Int.mul_nonneg (by omega) (by omega)
        have hsum : (A : Int) * (fact t.length : Int) + (rankR t : Int) ≤ 479001600 := by
          have : A * fact t.length + rankR t ≤ 479001600 := by omega
          have h2 := Int.ofNat_le.2 this
          rw [Int.natCast_add, Int.natCast_mul] at h2
          exact h2
        rw [← hAd]
        have HAA := hid hAd
        clear hAd hr hfx hA hcl
        have p1 : IntKind.i64.wrap ((t.length : Int) + 1 - 1) = (t.length : Int) := by rw [IntWalk.i64_in _ (by omega)]; omega
        have p2 : IntKind.i64.wrap (t.length : Int) = (t.length : Int) := IntWalk.i64_in _ (by omega)
        have p3 : IntKind.i64.wrap ((A : Int) * (fact t.length : Int)) = (A : Int) * (fact t.length : Int) := IntWalk.i64_in _ (by omega)
        have p4 : IntKind.i64.wrap ((A : Int) * (fact t.length : Int) + (rankR t : Int)) = (A : Int) * (fact t.length : Int) + (rankR t : Int) := IntWalk.i64_in _ (by omega)
        by_cases hcap : c = 1
        · have ht : t = [] := List.eq_nil_of_length_eq_zero (by omega)
          subst ht
          subst hcap
          have hS : Sits w (.slice (some ⟨b, off, none⟩) 0 0) [] := ⟨b, off, 0, rfl, Nat.le_refl _, by omega, hb, fun i hi => absurd hi (by simp)⟩
          have HS := hid hS
          have hf0 : ∀ w, Calls Try.prog 48 #[.int .i64 0] w fun e w' => e = .returned (.int .i64 1) ∧ w = w' := fun w => raFactorial_any 0 w (by omega)
          have HF0 := hid hf0
          have HR2 : Hid (rankR [x] = A) := by
            show rankR [x] = A
            rw [HR.out]; simp [fact, rankR]
          have hA12 : A ≤ 1 := by
            have h1 := countLt_le [x] x
            rw [← HAA.out] at h1
            simpa using h1
          have p5 : IntKind.i64.wrap (A : Int) = (A : Int) := IntWalk.i64_in _ (by omega)
          clear hS hf0 p1 p2 p3 p4 hmul hmul0 hsum
          go_wp2_with fail
          go_quiet ((first | (go_at_call 48; exact Calls.quiet_of_same ((HF0.out _).mono fun _ _ h => ⟨h.1, h.2.symm⟩)) | (go_at_call 24; exact Calls.quiet_of (ih _ _ (by omega) (HS.out.below (below_drewN (Below.refl _ _) _))))))
          go_wp2_with fail
          go_ret
          exact ⟨ret_int (by rw [HR2.out]; simp [rankR]; exact IntWalk.wrap64_in _ ⟨by omega, by omega⟩), nq, rfl⟩
        · have hS : Sits w (.slice (some ⟨b, off + 1, none⟩) t.length (c - 1)) t := by
            have := Sits_drop (xs := x :: t) (w := w) (off := off) 1 (by simp) hc1 hm hb HC.out
            simpa using this
          have HS := hid hS
          clear hS
          go_wp2_with fail
          go_quiet ((first | (go_at_call 48; exact Calls.quiet_of_same ((raFactorial_any t.length _ (by omega)).mono fun _ _ h => ⟨h.1, h.2.symm⟩)) | (go_at_call 24; exact Calls.quiet_of (ih _ _ (by omega) (HS.out.below (below_drewN (Below.refl _ _) _))))))
          go_wp2_with fail
          go_ret
          exact ⟨ret_int (by rw [HR.out, Int.natCast_add, Int.natCast_mul]), nq, rfl⟩
end Go.Proofs.Ytkphbelgamfmnaa
