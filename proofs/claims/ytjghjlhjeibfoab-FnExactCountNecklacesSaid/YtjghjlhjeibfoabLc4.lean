/- Contracts of the exported counts and of their models: lyKind, isWordLength, isLetterCount, CountLyndon, CountNecklaces, CountBracelets. Conditions: ints in their range. -/
import Derived.Test.YtjghjlhjeibfoabLc3
namespace Go.Proofs.Ytjghjlhjeibfoab
open Go.RowKit
set_option linter.unusedVariables false
set_option maxRecDepth 4000

def kindB (n k : Int) : Bool := inB n 1 12 && inB k 1 6
theorem kindB_iff {n k : Int} : kindB n k = true ↔ (1 ≤ n ∧ n ≤ 12) ∧ (1 ≤ k ∧ k ≤ 6) := by simp only [kindB, Bool.and_eq_true, inB_iff]
theorem kindB_nat {n k : Int} (h : kindB n k = true) : ∃ a b : Nat, n = (a : Int) ∧ k = (b : Int) ∧ 1 ≤ a ∧ a < 13 ∧ 1 ≤ b ∧ b < 7 := by
  have := kindB_iff.1 h
  exact ⟨n.toNat, k.toNat, by omega, by omega, by omega, by omega, by omega, by omega⟩
/-- what a function answers at numbers that are no length and no number of letters: d -/
def atK {T : Type} (n k : Int) (d r : T) : T := if kindB n k = true then r else d
theorem atK_yes {T : Type} {n k : Int} {d r : T} (h : kindB n k = true) : atK n k d r = r := by unfold atK; rw [if_pos h]
theorem atK_no {T : Type} {n k : Int} {d r : T} (h : kindB n k = false) : atK n k d r = d := by unfold atK; rw [if_neg (by rw [h]; simp)]
theorem lyKind_any (n k : Int) (w : World) : Calls Try.prog 42 #[.int .i64 n, .int .i64 k] w fun e w' => e = .returned (.bool (kindB n k)) ∧ w = w' := by
  cases hn : inB n 1 12 with
  | false =>
    have HF := hid (show kindB n k = false by unfold kindB; rw [hn]; rfl)
    go_enter Try.func42, Try.ntmps42
    go_wp2_with (first | (go_at_call 63; (refine (l1In_any _ _ _ _).mono ?_); (rintro e w' ⟨rfl, rfl⟩); (rw [hn])) | fail)
    go_ret
    exact ⟨ret_bool HF.out.symm, rfl⟩
  | true =>
    have HF := hid (show kindB n k = inB k 1 6 by unfold kindB; rw [hn]; rfl)
    go_enter Try.func42, Try.ntmps42
    go_wp2_with (first
      | (go_at_call 63; (have HX := HF1); (refine (l1In_any _ _ _ _).mono ?_); (rintro e w' ⟨rfl, rfl⟩))
      | (go_at_call 63; (refine (l1In_any _ _ _ _).mono ?_); (rintro e w' ⟨rfl, rfl⟩); (rw [hn]); (have HF1 := hid trivial))
      | fail)
    go_ret
    exact ⟨ret_bool HF.out.symm, rfl⟩
theorem isWordLength_any (n : Int) (w : World) : Calls Try.prog 45 #[.int .i64 n] w fun e w' => e = .returned (.bool (inB n 1 12)) ∧ w = w' := by
  by_cases h1 : 1 ≤ n
  · by_cases h2 : n ≤ 12
    all_goals
      go_enter Try.func45, Try.ntmps45
      go_wp2
      go_ret
      exact ⟨by simp [inB]; omega, rfl⟩
  · go_enter Try.func45, Try.ntmps45
    go_wp2
    go_ret
    exact ⟨by simp [inB]; omega, rfl⟩
theorem isLetterCount_any (n : Int) (w : World) : Calls Try.prog 46 #[.int .i64 n] w fun e w' => e = .returned (.bool (inB n 1 6)) ∧ w = w' := by
  by_cases h1 : 1 ≤ n
  · by_cases h2 : n ≤ 6
    all_goals
      go_enter Try.func46, Try.ntmps46
      go_wp2
      go_ret
      exact ⟨by simp [inB]; omega, rfl⟩
  · go_enter Try.func46, Try.ntmps46
    go_wp2
    go_ret
    exact ⟨by simp [inB]; omega, rfl⟩
theorem law_spec_CountLyndon (n k : Int) (w : World) (_wn : (Lit.int .i64 n).wf = true) (_wk : (Lit.int .i64 k).wf = true) :
    Calls Try.prog 27 #[.int .i64 n, .int .i64 k] w fun e w' => e = .returned (.tuple #[.int .i64 (atK n k 0 (lynC k.toNat n.toNat)), .bool (kindB n k)]) ∧ Below w.heap.size w w' := by
  cases hk : kindB n k with
  | false =>
    have HF := hid (atK_no (d := (0 : Int)) (r := lynC k.toNat n.toNat) hk)
    go_enter Try.func27, Try.ntmps27
    go_wp2_with (first | (go_at_call 42; (refine (lyKind_any _ _ _).mono ?_); (rintro e w1 ⟨rfl, rfl⟩); (rw [hk])) | fail)
    go_ret2
    exact ⟨by rw [HF.out]; rfl, Below.refl _ _⟩
  | true =>
    have HF := hid (atK_yes (d := (0 : Int)) (r := lynC k.toNat n.toNat) hk)
    obtain ⟨a, b, rfl, rfl, ha1, ha2, hb1, hb2⟩ := kindB_nat hk
    rw [Int.toNat_natCast, Int.toNat_natCast] at HF
    go_enter Try.func27, Try.ntmps27
    go_wp2_with (first
      | (go_at_call 42; (refine (lyKind_any _ _ _).mono ?_); (rintro e w1 ⟨rfl, rfl⟩); (rw [hk]))
      | (go_at_call 56; (refine (lyCount_any b hb2 a _ ha1 ha2).mono ?_); (rintro e w2 ⟨rfl, rfl⟩))
      | fail)
    go_ret2
    exact ⟨by rw [Int.toNat_natCast, Int.toNat_natCast, HF.out]; rfl, Below.refl _ _⟩
theorem law_impl_CountLyndon (n k : Int) (w : World) (_wn : (Lit.int .i64 n).wf = true) (_wk : (Lit.int .i64 k).wf = true) :
    Calls Try.prog 28 #[.int .i64 n, .int .i64 k] w fun e w' => e = .returned (.tuple #[.int .i64 (atK n k 0 (lynC k.toNat n.toNat)), .bool (kindB n k)]) ∧ Below w.heap.size w w' := by
  cases hk : kindB n k with
  | false =>
    have HF := hid (atK_no (d := (0 : Int)) (r := lynC k.toNat n.toNat) hk)
    cases hi1 : inB n 1 12 with
    | false =>
      go_enter Try.func28, Try.ntmps28
      go_wp2_with (first | (go_at_call 45; (refine (isWordLength_any _ _).mono ?_); (rintro e w1 ⟨rfl, rfl⟩); (rw [hi1])) | fail)
      go_ret2
      exact ⟨by rw [HF.out]; rfl, Below.refl _ _⟩
    | true =>
      have hi2 : inB k 1 6 = false := by unfold kindB at hk; rw [hi1] at hk; exact hk
      go_enter Try.func28, Try.ntmps28
      go_wp2_with (first | (go_at_call 45; (refine (isWordLength_any _ _).mono ?_); (rintro e w1 ⟨rfl, rfl⟩); (rw [hi1])) | (go_at_call 46; (refine (isLetterCount_any _ _).mono ?_); (rintro e w1 ⟨rfl, rfl⟩); (rw [hi2])) | fail)
      go_ret2
      exact ⟨by rw [HF.out]; rfl, Below.refl _ _⟩
  | true =>
    have HF := hid (atK_yes (d := (0 : Int)) (r := lynC k.toNat n.toNat) hk)
    have hh := hk
    simp only [kindB, Bool.and_eq_true] at hh
    obtain ⟨hi1, hi2⟩ := hh
    obtain ⟨a, b, rfl, rfl, ha1, ha2, hb1, hb2⟩ := kindB_nat hk
    rw [Int.toNat_natCast, Int.toNat_natCast] at HF
    go_enter Try.func28, Try.ntmps28
    go_wp2_with (first
      | (go_at_call 45; (refine (isWordLength_any _ _).mono ?_); (rintro e w1 ⟨rfl, rfl⟩); (rw [hi1]))
      | (go_at_call 46; (refine (isLetterCount_any _ _).mono ?_); (rintro e w1 ⟨rfl, rfl⟩); (rw [hi2]))
      | (go_at_call 57; (refine (countLyndon_any b hb2 a _ ha1 ha2).mono ?_); (rintro e w2 ⟨rfl, hb⟩); (have HB := hid hb); (clear hb))
      | fail)
    go_ret2
    exact ⟨by rw [Int.toNat_natCast, Int.toNat_natCast, HF.out]; rfl, HB.out⟩
theorem law_spec_CountNecklaces (n k : Int) (w : World) (_wn : (Lit.int .i64 n).wf = true) (_wk : (Lit.int .i64 k).wf = true) :
    Calls Try.prog 29 #[.int .i64 n, .int .i64 k] w fun e w' => e = .returned (.tuple #[.int .i64 (atK n k 0 (necC k.toNat n.toNat)), .bool (kindB n k)]) ∧ Below w.heap.size w w' := by
  cases hk : kindB n k with
  | false =>
    have HF := hid (atK_no (d := (0 : Int)) (r := necC k.toNat n.toNat) hk)
    go_enter Try.func29, Try.ntmps29
    go_wp2_with (first | (go_at_call 42; (refine (lyKind_any _ _ _).mono ?_); (rintro e w1 ⟨rfl, rfl⟩); (rw [hk])) | fail)
    go_ret2
    exact ⟨by rw [HF.out]; rfl, Below.refl _ _⟩
  | true =>
    have HF := hid (atK_yes (d := (0 : Int)) (r := necC k.toNat n.toNat) hk)
    obtain ⟨a, b, rfl, rfl, ha1, ha2, hb1, hb2⟩ := kindB_nat hk
    rw [Int.toNat_natCast, Int.toNat_natCast] at HF
    go_enter Try.func29, Try.ntmps29
    go_wp2_with (first
      | (go_at_call 42; (refine (lyKind_any _ _ _).mono ?_); (rintro e w1 ⟨rfl, rfl⟩); (rw [hk]))
      | (go_at_call 52; (refine (lyNecklaces_any b a _ hb2 ha1 ha2).mono ?_); (rintro e w2 ⟨rfl, rfl⟩))
      | fail)
    go_ret2
    exact ⟨by rw [Int.toNat_natCast, Int.toNat_natCast, HF.out]; rfl, Below.refl _ _⟩
theorem law_impl_CountNecklaces (n k : Int) (w : World) (_wn : (Lit.int .i64 n).wf = true) (_wk : (Lit.int .i64 k).wf = true) :
    Calls Try.prog 30 #[.int .i64 n, .int .i64 k] w fun e w' => e = .returned (.tuple #[.int .i64 (atK n k 0 (necC k.toNat n.toNat)), .bool (kindB n k)]) ∧ Below w.heap.size w w' := by
  cases hk : kindB n k with
  | false =>
    have HF := hid (atK_no (d := (0 : Int)) (r := necC k.toNat n.toNat) hk)
    cases hi1 : inB n 1 12 with
    | false =>
      go_enter Try.func30, Try.ntmps30
      go_wp2_with (first | (go_at_call 45; (refine (isWordLength_any _ _).mono ?_); (rintro e w1 ⟨rfl, rfl⟩); (rw [hi1])) | fail)
      go_ret2
      exact ⟨by rw [HF.out]; rfl, Below.refl _ _⟩
    | true =>
      have hi2 : inB k 1 6 = false := by unfold kindB at hk; rw [hi1] at hk; exact hk
      go_enter Try.func30, Try.ntmps30
      go_wp2_with (first | (go_at_call 45; (refine (isWordLength_any _ _).mono ?_); (rintro e w1 ⟨rfl, rfl⟩); (rw [hi1])) | (go_at_call 46; (refine (isLetterCount_any _ _).mono ?_); (rintro e w1 ⟨rfl, rfl⟩); (rw [hi2])) | fail)
      go_ret2
      exact ⟨by rw [HF.out]; rfl, Below.refl _ _⟩
  | true =>
    have HF := hid (atK_yes (d := (0 : Int)) (r := necC k.toNat n.toNat) hk)
    have hh := hk
    simp only [kindB, Bool.and_eq_true] at hh
    obtain ⟨hi1, hi2⟩ := hh
    obtain ⟨a, b, rfl, rfl, ha1, ha2, hb1, hb2⟩ := kindB_nat hk
    rw [Int.toNat_natCast, Int.toNat_natCast] at HF
    go_enter Try.func30, Try.ntmps30
    go_wp2_with (first
      | (go_at_call 45; (refine (isWordLength_any _ _).mono ?_); (rintro e w1 ⟨rfl, rfl⟩); (rw [hi1]))
      | (go_at_call 46; (refine (isLetterCount_any _ _).mono ?_); (rintro e w1 ⟨rfl, rfl⟩); (rw [hi2]))
      | (go_at_call 54; (refine (countNecklaces_any b a _ hb2 ha1 ha2).mono ?_); (rintro e w2 ⟨rfl, hb⟩); (have HB := hid hb); (clear hb))
      | fail)
    go_ret2
    exact ⟨by rw [Int.toNat_natCast, Int.toNat_natCast, HF.out]; rfl, HB.out⟩
set_option maxHeartbeats 1000000 in
theorem law_spec_CountBracelets (n k : Int) (w : World) (_wn : (Lit.int .i64 n).wf = true) (_wk : (Lit.int .i64 k).wf = true) :
    Calls Try.prog 31 #[.int .i64 n, .int .i64 k] w fun e w' => e = .returned (.tuple #[.int .i64 (atK n k 0 (braC k.toNat n.toNat)), .bool (kindB n k)]) ∧ Below w.heap.size w w' := by
  cases hk : kindB n k with
  | false =>
    have HF := hid (atK_no (d := (0 : Int)) (r := braC k.toNat n.toNat) hk)
    go_enter Try.func31, Try.ntmps31
    go_wp2_with (first | (go_at_call 42; (refine (lyKind_any _ _ _).mono ?_); (rintro e w1 ⟨rfl, rfl⟩); (rw [hk])) | fail)
    go_ret2
    exact ⟨by rw [HF.out]; rfl, Below.refl _ _⟩
  | true =>
    have HF := hid (atK_yes (d := (0 : Int)) (r := braC k.toNat n.toNat) hk)
    obtain ⟨n, k, rfl, rfl, h1, hn, hb1, hkk⟩ := kindB_nat hk
    rw [Int.toNat_natCast, Int.toNat_natCast] at HF
    obtain ⟨a, ha⟩ : ∃ a, a = (n + 1) / 2 := ⟨_, rfl⟩
    obtain ⟨b, hb⟩ : ∃ b, b = n / 2 := ⟨_, rfl⟩
    obtain ⟨b1, hbb⟩ : ∃ b1, b1 = n / 2 + 1 := ⟨_, rfl⟩
    obtain ⟨r, hr⟩ : ∃ r, r = n % 2 := ⟨_, rfl⟩
    have HE := hid (show braC k n = (2 * necC k n + (if r = 0 then pwI k b + pwI k b1 else 2 * pwI k a)) / 4 by rw [← bra_eq k hkk n hn, ha, hb, hbb, hr]; rfl)
    have ha13 : a < 13 := by omega
    have hb13 : b < 13 := by omega
    have hb113 : b1 < 13 := by omega
    have h3 := pw_tab k hkk a ha13
    have h4 := pw_tab k hkk b hb13
    have h4' := pw_tab k hkk b1 hb113
    have h5 := nec_tab k hkk n hn n (by omega)
    have e1 : ((n : Int) + 1) / 2 = (a : Int) := by omega
    have e2 : (n : Int) / 2 = (b : Int) := by omega
    have e3 : (b : Int) + 1 = (b1 : Int) := by omega
    obtain ⟨u1, u2⟩ := rem_nat (a := n) (b := 2) hr
    have g3 := h3.1
    have g4 := h3.2
    have g5 := h4.1
    have g6 := h4.2
    have g7 := h4'.1
    have g8 := h4'.2
    have g9 : 0 ≤ necC k n := h5.1
    have g10 : necC k n ≤ 2176782336 := h5.2
    obtain ⟨A, hA⟩ : ∃ A, A = pwI k a := ⟨_, rfl⟩
    obtain ⟨B, hB⟩ : ∃ B, B = pwI k b := ⟨_, rfl⟩
    obtain ⟨C, hC⟩ : ∃ C, C = pwI k b1 := ⟨_, rfl⟩
    obtain ⟨D, hD⟩ : ∃ D, D = necC k n := ⟨_, rfl⟩
    rw [← hA] at g3 g4 HE
    rw [← hB] at g5 g6 HE
    rw [← hC] at g7 g8 HE
    rw [← hD] at g9 g10 HE
    have HA := hid hA
    have HB := hid hB
    have HC := hid hC
    have HD := hid hD
    have hr2 : r < 2 := by omega
    clear h3 h4 h4' h5 hA hB hC hD ha hb hbb hr
    by_cases hr0 : r = 0
    · have HG := hid (show braC k n = (2 * D + (B + C)) / 4 by rw [HE.out, if_pos hr0])
      subst hr0
      go_enter Try.func31, Try.ntmps31
      go_wp2_with (first
        | (go_at_call 42; (refine (lyKind_any _ _ _).mono ?_); (rintro e w1 ⟨rfl, rfl⟩); (rw [hk]))
        | (go_at_call 58; (have HX := HF2); (refine (lyPower_any k b1 _ hkk hb113).mono ?_); (rintro e w2 ⟨rfl, rfl⟩); (rw [← HC.out]))
        | (go_at_call 58; (have HX := HF1); (refine (lyPower_any k b _ hkk hb13).mono ?_); (rintro e w2 ⟨rfl, rfl⟩); (rw [← HB.out]); (have HF2 := hid trivial))
        | (go_at_call 58; (refine (lyPower_any k a _ hkk ha13).mono ?_); (rintro e w2 ⟨rfl, rfl⟩); (rw [← HA.out]); (have HF1 := hid trivial))
        | (go_at_call 52; (refine (lyNecklaces_any k n _ hkk h1 hn).mono ?_); (rintro e w2 ⟨rfl, rfl⟩); (rw [← HD.out]))
        | fail)
      go_ret2
      exact ⟨by rw [Int.toNat_natCast, Int.toNat_natCast, HF.out, HG.out]; rfl, Below.refl _ _⟩
    · have HG := hid (show braC k n = (2 * D + 2 * A) / 4 by rw [HE.out, if_neg hr0])
      have u4 : ((r : Int) == 0) = false := beq_eq_false_iff_ne.2 (by omega)
      clear hr0
      go_enter Try.func31, Try.ntmps31
      go_wp2_with (first
        | (go_at_call 42; (refine (lyKind_any _ _ _).mono ?_); (rintro e w1 ⟨rfl, rfl⟩); (rw [hk]))
        | (go_at_call 58; (refine (lyPower_any k a _ hkk ha13).mono ?_); (rintro e w2 ⟨rfl, rfl⟩); (rw [← HA.out]))
        | (go_at_call 52; (refine (lyNecklaces_any k n _ hkk h1 hn).mono ?_); (rintro e w2 ⟨rfl, rfl⟩); (rw [← HD.out]))
        | fail)
      go_ret2
      exact ⟨by rw [Int.toNat_natCast, Int.toNat_natCast, HF.out, HG.out]; rfl, Below.refl _ _⟩
theorem law_impl_CountBracelets (n k : Int) (w : World) (_wn : (Lit.int .i64 n).wf = true) (_wk : (Lit.int .i64 k).wf = true) :
    Calls Try.prog 32 #[.int .i64 n, .int .i64 k] w fun e w' => e = .returned (.tuple #[.int .i64 (atK n k 0 (braC k.toNat n.toNat)), .bool (kindB n k)]) ∧ Below w.heap.size w w' := by
  cases hk : kindB n k with
  | false =>
    have HF := hid (atK_no (d := (0 : Int)) (r := braC k.toNat n.toNat) hk)
    cases hi1 : inB n 1 12 with
    | false =>
      go_enter Try.func32, Try.ntmps32
      go_wp2_with (first | (go_at_call 45; (refine (isWordLength_any _ _).mono ?_); (rintro e w1 ⟨rfl, rfl⟩); (rw [hi1])) | fail)
      go_ret2
      exact ⟨by rw [HF.out]; rfl, Below.refl _ _⟩
    | true =>
      have hi2 : inB k 1 6 = false := by unfold kindB at hk; rw [hi1] at hk; exact hk
      go_enter Try.func32, Try.ntmps32
      go_wp2_with (first | (go_at_call 45; (refine (isWordLength_any _ _).mono ?_); (rintro e w1 ⟨rfl, rfl⟩); (rw [hi1])) | (go_at_call 46; (refine (isLetterCount_any _ _).mono ?_); (rintro e w1 ⟨rfl, rfl⟩); (rw [hi2])) | fail)
      go_ret2
      exact ⟨by rw [HF.out]; rfl, Below.refl _ _⟩
  | true =>
    have HF := hid (atK_yes (d := (0 : Int)) (r := braC k.toNat n.toNat) hk)
    have hh := hk
    simp only [kindB, Bool.and_eq_true] at hh
    obtain ⟨hi1, hi2⟩ := hh
    obtain ⟨a, b, rfl, rfl, ha1, ha2, hb1, hb2⟩ := kindB_nat hk
    rw [Int.toNat_natCast, Int.toNat_natCast] at HF
    have h5 := nec_tab b hb2 a ha2 a (by omega)
    have h6 := mir_tab b hb2 a ha2
    have HE := hid (show braC b a = (necC b a + mirC b a) / 2 from rfl)
    have g9 : 0 ≤ necC b a := h5.1
    have g10 : necC b a ≤ 2176782336 := h5.2
    have g11 := h6.1
    have g12 := h6.2
    obtain ⟨D, hD⟩ : ∃ D, D = necC b a := ⟨_, rfl⟩
    obtain ⟨M, hM⟩ : ∃ M, M = mirC b a := ⟨_, rfl⟩
    rw [← hD] at g9 g10 HE
    rw [← hM] at g11 g12 HE
    have HD := hid hD
    have HM := hid hM
    clear h5 h6 hD hM
    go_enter Try.func32, Try.ntmps32
    go_wp2_with (first
      | (go_at_call 45; (refine (isWordLength_any _ _).mono ?_); (rintro e w1 ⟨rfl, rfl⟩); (rw [hi1]))
      | (go_at_call 46; (refine (isLetterCount_any _ _).mono ?_); (rintro e w1 ⟨rfl, rfl⟩); (rw [hi2]))
      | (go_at_call 54; (refine (countNecklaces_any b a _ hb2 ha1 ha2).mono ?_); (rintro e w2 ⟨rfl, hb⟩); (rw [← HD.out]); (have HB := hid hb); (clear hb))
      | (go_at_call 59; (refine (countMirrored_any b a _ hb2 ha1 ha2).mono ?_); (rintro e w3 ⟨rfl, rfl⟩); (rw [← HM.out]))
      | fail)
    go_ret2
    exact ⟨by rw [Int.toNat_natCast, Int.toNat_natCast, HF.out, HE.out]; rfl, HB.out⟩
end Go.Proofs.Ytjghjlhjeibfoab
