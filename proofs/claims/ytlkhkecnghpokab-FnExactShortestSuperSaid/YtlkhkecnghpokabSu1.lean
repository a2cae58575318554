/- Contracts: ranges of superpermutations; their lengths and bounds; suFirsts, both RanksIn functions. Conditions: slices that are not nil and read as lists. -/
import Derived.Test.YtlkhkecnghpokabOrM
import Derived.Test.YtlkhkecnghpokabPush0
import Derived.Test.YtlkhkecnghpokabEnd0
import Derived.Test.YtlkhkecnghpokabCont
import Derived.Test.YtlkhkecnghpokabPrk
import Derived.Test.YtlkhkecnghpokabBs2
namespace Go.Proofs.Ytlkhkecnghpokab
open Go.RowKit
set_option linter.unusedVariables false
set_option maxRecDepth 4000

theorem suWB_far {xs : List Int} (h : ¬ xs.length ≤ 200) : suWB xs = false := by unfold suWB; simp [h]
theorem suWB_near {xs : List Int} (h : xs.length ≤ 200) : suWB xs = belowB xs 12 := by unfold suWB; simp [h]
theorem suWB_len {xs : List Int} (h : suWB xs = true) : xs.length ≤ 200 := by
  rcases Nat.lt_or_ge 200 xs.length with q | q
  · rw [suWB_far (by omega)] at h; simp at h
  · exact q
theorem suWord_any (v : Value) (xs : List Int) (w : World) (h : Sits w v xs) :
    Calls Try.prog 46 #[v] w fun e w' => e = .returned (.bool (suWB xs)) ∧ w = w' := by
  have HS := hid h
  obtain ⟨b, off, c, rfl, hc1, hm, hb, hc⟩ := h
  clear hc
  by_cases hl : xs.length ≤ 200
  · have HF := hid (suWB_near hl)
    have q : (xs.length : Int) ≤ 200 := by omega
    go_enter Try.func46, Try.ntmps46
    go_wp2_with (first | (go_at_call 74; (refine (l1All_any _ xs _ _ _ HS.out).mono ?_); (rintro e w' ⟨rfl, rfl⟩)) | fail)
    go_ret
    exact ⟨ret_bool (by rw [HF.out]; rfl), rfl⟩
  · have HF := hid (suWB_far hl)
    have q : ¬ (xs.length : Int) ≤ 200 := by omega
    go_enter Try.func46, Try.ntmps46
    go_wp2_with fail
    go_ret
    exact ⟨ret_bool HF.out.symm, rfl⟩
theorem isSuperWord_any (v : Value) (xs : List Int) (w : World) (h : Sits w v xs) :
    Calls Try.prog 51 #[v] w fun e w' => e = .returned (.bool (suWB xs)) ∧ w = w' := by
  have HS := hid h
  obtain ⟨b, off, c, rfl, hc1, hm, hb, hc⟩ := h
  clear hc
  by_cases hl : xs.length ≤ 200
  · have HF := hid (suWB_near hl)
    have q : (xs.length : Int) ≤ 200 := by omega
    go_enter Try.func51, Try.ntmps51
    go_wp2_with (first | (go_at_call 83; (refine (areBelow_any _ xs _ _ HS.out.reads).mono ?_); (rintro e w' ⟨rfl, rfl⟩)) | fail)
    go_ret
    exact ⟨ret_bool (by rw [HF.out]), rfl⟩
  · have HF := hid (suWB_far hl)
    have q : ¬ (xs.length : Int) ≤ 200 := by omega
    go_enter Try.func51, Try.ntmps51
    go_wp2_with fail
    go_ret
    exact ⟨ret_bool HF.out.symm, rfl⟩
theorem suSize_any (n : Int) (w : World) : Calls Try.prog 45 #[.int .i64 n] w fun e w' => e = .returned (.bool (suNB n)) ∧ w = w' := by
  go_enter Try.func45, Try.ntmps45
  go_wp2_with (go_at_call 58; refine (l1In_any _ _ _ _).mono ?_; rintro e w' ⟨rfl, rfl⟩)
  go_ret
  exact ⟨rfl, rfl⟩
theorem isSuperSize_any (n : Int) (w : World) : Calls Try.prog 50 #[.int .i64 n] w fun e w' => e = .returned (.bool (suNB n)) ∧ w = w' := by
  by_cases h1 : 1 ≤ n
  · by_cases h2 : n ≤ 5
    all_goals
      go_enter Try.func50, Try.ntmps50
      go_wp2
      go_ret
      exact ⟨by simp [suNB, inB]; omega, rfl⟩
  · go_enter Try.func50, Try.ntmps50
    go_wp2
    go_ret
    exact ⟨by simp [suNB, inB]; omega, rfl⟩
theorem suNB_iff {n : Int} : suNB n = true ↔ 1 ≤ n ∧ n ≤ 5 := inB_iff
theorem suNB_nat {n : Int} (h : suNB n = true) : ∃ m : Nat, n = (m : Int) ∧ 1 ≤ m ∧ m ≤ 5 := by
  have := suNB_iff.1 h
  exact ⟨n.toNat, by omega, by omega, by omega⟩
/-- the sum of the first factorials -/
def sumF : Nat → Nat
  | 0 => 0
  | k + 1 => sumF k + fact (k + 1)
theorem sumF_le : ∀ k, k < 6 → sumF k ≤ 153 ∧ fact k ≤ 120 := by decide
def slenR (n : Int) : Int := if suNB n = true then (sumF n.toNat : Nat) else 0
theorem slenR_yes {m : Nat} (h : suNB (m : Int) = true) : slenR (m : Int) = (sumF m : Nat) := by unfold slenR; rw [if_pos h, Int.toNat_natCast]
theorem slenR_no {n : Int} (h : suNB n = false) : slenR n = 0 := by unfold slenR; rw [if_neg (by rw [h]; simp)]
theorem spec_SuperLength_any (n : Int) (w : World) (_hwf : (Lit.int .i64 n).wf = true) :
    Calls Try.prog 26 #[.int .i64 n] w fun e w' => e = .returned (.tuple #[.int .i64 (slenR n), .bool (suNB n)]) ∧ Below w.heap.size w w' := by
  cases hn : suNB n with
  | false =>
    have HR := hid (slenR_no hn)
    go_enter Try.func26, Try.ntmps26
    go_wp2_with (first | (go_at_call 45; (refine (suSize_any _ _).mono ?_); (rintro e w' ⟨rfl, rfl⟩); (rw [hn])) | fail)
    go_ret2
    exact ⟨ret_nb2 HR.out.symm rfl, Below.refl _ _⟩
  | true =>
    obtain ⟨m, rfl, h1, h5⟩ := suNB_nat hn
    have HR := hid (slenR_yes hn)
    go_enter Try.func26, Try.ntmps26
    go_wp2_with (first | (go_at_call 45; (refine (suSize_any _ _).mono ?_); (rintro e w' ⟨rfl, rfl⟩); (rw [hn])) | fail)
    go_loop [4, 5] (fun s i => ∃ k : Nat, k ≤ m ∧ i = .int .i64 ((k : Int) + 1) ∧ s = .int .i64 (sumF k : Nat)) (fun _ i => m + 1 - (intOf i).toNat)
    case atStart => exact ⟨0, Nat.zero_le _, rfl, rfl⟩
    case round =>
      obtain ⟨k, hk, rfl, rfl⟩ := hrel
      by_cases hlt : k < m
      · have hf := sumF_le (k + 1) (by omega)
        have hf2 := sumF_le k (by omega)
        have HF := hid (show ((sumF (k + 1) : Nat) : Int) = (sumF k : Nat) + (fact (k + 1) : Nat) by rw [sumF]; simp)
        have e1 : ((k : Int) + 1) = ((k + 1 : Nat) : Int) := by omega
        obtain ⟨F, hF⟩ : ∃ F, F = fact (k + 1) := ⟨_, rfl⟩
        rw [← hF] at HF hf
        have E1 := hid e1
        have HFF := hid hF
        clear e1 hF
        go_wp2_with (first | (go_at_call 57; (rw [E1.out]); (refine (raFactorial_any (k + 1) _ (by omega)).mono ?_); (rintro e w' ⟨rfl, rfl⟩); (rw [← HFF.out])) | fail)
        go_round
        case rel => exact ⟨k + 1, by omega, by go_num, by rw [HF.out]⟩
        case measure => simp [intOf]; omega
      · obtain rfl : k = m := by omega
        go_wp2_with fail
        go_ret2
        exact ⟨ret_nb2 HR.out.symm rfl, Below.refl _ _⟩
theorem impl_SuperLength_any (n : Int) (w : World) (_hwf : (Lit.int .i64 n).wf = true) :
    Calls Try.prog 27 #[.int .i64 n] w fun e w' => e = .returned (.tuple #[.int .i64 (slenR n), .bool (suNB n)]) ∧ Below w.heap.size w w' := by
  cases hn : suNB n with
  | false =>
    have HR := hid (slenR_no hn)
    go_enter Try.func27, Try.ntmps27
    go_wp2_with (first | (go_at_call 50; (refine (isSuperSize_any _ _).mono ?_); (rintro e w' ⟨rfl, rfl⟩); (rw [hn])) | fail)
    go_ret2
    exact ⟨ret_nb2 HR.out.symm rfl, Below.refl _ _⟩
  | true =>
    obtain ⟨m, rfl, h1, h5⟩ := suNB_nat hn
    have HR := hid (slenR_yes hn)
    go_enter Try.func27, Try.ntmps27
    go_wp2_with (first | (go_at_call 50; (refine (isSuperSize_any _ _).mono ?_); (rintro e w' ⟨rfl, rfl⟩); (rw [hn])) | fail)
    go_loop [4, 5] (fun s i => ∃ k : Nat, k ≤ m ∧ i = .int .i64 ((k : Int) + 1) ∧ s = .int .i64 (sumF k : Nat)) (fun _ i => m + 1 - (intOf i).toNat)
    case atStart => exact ⟨0, Nat.zero_le _, rfl, rfl⟩
    case round =>
      obtain ⟨k, hk, rfl, rfl⟩ := hrel
      by_cases hlt : k < m
      · have hf := sumF_le (k + 1) (by omega)
        have hf2 := sumF_le k (by omega)
        have HF := hid (show ((sumF (k + 1) : Nat) : Int) = (sumF k : Nat) + (fact (k + 1) : Nat) by rw [sumF]; simp)
        have e1 : ((k : Int) + 1) = ((k + 1 : Nat) : Int) := by omega
        obtain ⟨F, hF⟩ : ∃ F, F = fact (k + 1) := ⟨_, rfl⟩
        rw [← hF] at HF hf
        have E1 := hid e1
        have HFF := hid hF
        clear e1 hF
        go_wp2_with (first | (go_at_call 48; (rw [E1.out]); (refine (factorial_any (k + 1) _ (by omega)).mono ?_); (rintro e w' ⟨rfl, rfl⟩); (rw [← HFF.out])) | fail)
        go_round
        case rel => exact ⟨k + 1, by omega, by go_num, by rw [HF.out]⟩
        case measure => simp [intOf]; omega
      · obtain rfl : k = m := by omega
        go_wp2_with fail
        go_ret2
        exact ⟨ret_nb2 HR.out.symm rfl, Below.refl _ _⟩
/-- the bound that no superpermutation is below -/
def sbdR (n : Int) : Int := if suNB n = true then ([0, 1, 3, 9, 33, 152].getD n.toNat 0) else 0
theorem sbdR_no {n : Int} (h : suNB n = false) : sbdR n = 0 := by unfold sbdR; rw [if_neg (by rw [h]; simp)]
theorem sbd_sum (m : Nat) (h1 : 2 ≤ m) (h5 : m ≤ 5) : sbdR (m : Int) = (fact m : Int) + (fact (m - 1) : Int) + (fact (m - 2) : Int) + (m : Int) - 3 := by
  obtain h | h | h | h : m = 2 ∨ m = 3 ∨ m = 4 ∨ m = 5 := by omega
  all_goals
    subst h
    rfl
theorem spec_SuperBound_any (n : Int) (w : World) (_hwf : (Lit.int .i64 n).wf = true) :
    Calls Try.prog 28 #[.int .i64 n] w fun e w' => e = .returned (.tuple #[.int .i64 (sbdR n), .bool (suNB n)]) ∧ Below w.heap.size w w' := by
  cases hn : suNB n with
  | false =>
    have HR := hid (sbdR_no hn)
    go_enter Try.func28, Try.ntmps28
    go_wp2_with (first | (go_at_call 45; (refine (suSize_any _ _).mono ?_); (rintro e w' ⟨rfl, rfl⟩); (rw [hn])) | fail)
    go_ret2
    exact ⟨ret_nb2 HR.out.symm rfl, Below.refl _ _⟩
  | true =>
    have hr := suNB_iff.1 hn
    by_cases hs : n < 3
    · obtain h | h : n = 1 ∨ n = 2 := by omega
      all_goals
        subst h
        clear hr hs
        go_enter Try.func28, Try.ntmps28
        go_wp2_with (first | (go_at_call 45; (refine (suSize_any _ _).mono ?_); (rintro e w' ⟨rfl, rfl⟩); (rw [hn])) | fail)
        go_ret2
        exact ⟨ret_nb2 (by rfl) rfl, Below.refl _ _⟩
    · obtain ⟨m, rfl, h1, h5⟩ := suNB_nat hn
      have hm : 3 ≤ m := by omega
      have HR := hid (sbd_sum m (by omega) (by omega))
      have hf0 := (sumF_le m (by omega)).2
      have hf1 := (sumF_le (m - 1) (by omega)).2
      have hf2 := (sumF_le (m - 2) (by omega)).2
      have q1 : ¬ (m : Int) < 3 := hs
      have q2 : ((m : Int) == 1) = false := beq_eq_false_iff_ne.2 (by omega)
      have E1 := hid (show (m : Int) - 1 = ((m - 1 : Nat) : Int) by omega)
      have E2 := hid (show (m : Int) - 2 = ((m - 2 : Nat) : Int) by omega)
      obtain ⟨F0, hF0⟩ : ∃ F, F = fact m := ⟨_, rfl⟩
      obtain ⟨F1, hF1⟩ : ∃ F, F = fact (m - 1) := ⟨_, rfl⟩
      obtain ⟨F2, hF2⟩ : ∃ F, F = fact (m - 2) := ⟨_, rfl⟩
      rw [← hF0] at hf0 HR
      rw [← hF1] at hf1 HR
      rw [← hF2] at hf2 HR
      have H0 := hid hF0
      have H1 := hid hF1
      have H2 := hid hF2
      clear hF0 hF1 hF2 hr hs
      go_enter Try.func28, Try.ntmps28
      go_wp2_with (first
        | (go_at_call 45; (refine (suSize_any _ _).mono ?_); (rintro e w' ⟨rfl, rfl⟩); (rw [hn]))
        | (go_at_call 57; (rw [E2.out]); (refine (raFactorial_any (m - 2) _ (by omega)).mono ?_); (rintro e w' ⟨rfl, rfl⟩); (rw [← H2.out]))
        | (go_at_call 57; (rw [E1.out]); (refine (raFactorial_any (m - 1) _ (by omega)).mono ?_); (rintro e w' ⟨rfl, rfl⟩); (rw [← H1.out]))
        | (go_at_call 57; (refine (raFactorial_any m _ (by omega)).mono ?_); (rintro e w' ⟨rfl, rfl⟩); (rw [← H0.out]))
        | fail)
      go_ret2
      exact ⟨ret_nb2 (by rw [HR.out]) rfl, Below.refl _ _⟩
theorem impl_SuperBound_any (n : Int) (w : World) (_hwf : (Lit.int .i64 n).wf = true) :
    Calls Try.prog 29 #[.int .i64 n] w fun e w' => e = .returned (.tuple #[.int .i64 (sbdR n), .bool (suNB n)]) ∧ Below w.heap.size w w' := by
  cases hn : suNB n with
  | false =>
    have HR := hid (sbdR_no hn)
    go_enter Try.func29, Try.ntmps29
    go_wp2_with (first | (go_at_call 50; (refine (isSuperSize_any _ _).mono ?_); (rintro e w' ⟨rfl, rfl⟩); (rw [hn])) | fail)
    go_ret2
    exact ⟨ret_nb2 HR.out.symm rfl, Below.refl _ _⟩
  | true =>
    have hr := suNB_iff.1 hn
    by_cases hs : n < 2
    · obtain h : n = 1 := by omega
      all_goals
        subst h
        clear hr hs
        go_enter Try.func29, Try.ntmps29
        go_wp2_with (first | (go_at_call 50; (refine (isSuperSize_any _ _).mono ?_); (rintro e w' ⟨rfl, rfl⟩); (rw [hn])) | fail)
        go_ret2
        exact ⟨ret_nb2 (by rfl) rfl, Below.refl _ _⟩
    · obtain ⟨m, rfl, h1, h5⟩ := suNB_nat hn
      have hm : 2 ≤ m := by omega
      have HR := hid (sbd_sum m (by omega) (by omega))
      have hf0 := (sumF_le m (by omega)).2
      have hf1 := (sumF_le (m - 1) (by omega)).2
      have hf2 := (sumF_le (m - 2) (by omega)).2
      have q1 : ¬ (m : Int) < 2 := hs
      have q2 : ((m : Int) == 1) = false := beq_eq_false_iff_ne.2 (by omega)
      have E1 := hid (show (m : Int) - 1 = ((m - 1 : Nat) : Int) by omega)
      have E2 := hid (show (m : Int) - 2 = ((m - 2 : Nat) : Int) by omega)
      obtain ⟨F0, hF0⟩ : ∃ F, F = fact m := ⟨_, rfl⟩
      obtain ⟨F1, hF1⟩ : ∃ F, F = fact (m - 1) := ⟨_, rfl⟩
      obtain ⟨F2, hF2⟩ : ∃ F, F = fact (m - 2) := ⟨_, rfl⟩
      rw [← hF0] at hf0 HR
      rw [← hF1] at hf1 HR
      rw [← hF2] at hf2 HR
      have H0 := hid hF0
      have H1 := hid hF1
      have H2 := hid hF2
      clear hF0 hF1 hF2 hr hs
      go_enter Try.func29, Try.ntmps29
      go_wp2_with (first
        | (go_at_call 50; (refine (isSuperSize_any _ _).mono ?_); (rintro e w' ⟨rfl, rfl⟩); (rw [hn]))
        | (go_at_call 48; (rw [E2.out]); (refine (factorial_any (m - 2) _ (by omega)).mono ?_); (rintro e w' ⟨rfl, rfl⟩); (rw [← H2.out]))
        | (go_at_call 48; (rw [E1.out]); (refine (factorial_any (m - 1) _ (by omega)).mono ?_); (rintro e w' ⟨rfl, rfl⟩); (rw [← H1.out]))
        | (go_at_call 48; (refine (factorial_any m _ (by omega)).mono ?_); (rintro e w' ⟨rfl, rfl⟩); (rw [← H0.out]))
        | fail)
      go_ret2
      exact ⟨ret_nb2 (by rw [HR.out]) rfl, Below.refl _ _⟩
end Go.Proofs.Ytlkhkecnghpokab
