/- Contracts on cycles: brCycle, both IsCycle, isAnyCycle, isTape, isSpreadTape, brTape, brWindow, both WindowAt. Conditions: slices that are not nil and read as lists of at most 2^20 numbers. -/
import Derived.Test.YtaajfpjekfmddabBrM
import Derived.Test.YtaajfpjekfmddabKind
namespace Go.Proofs.Ytaajfpjekfmddab
open Go.RowKit
set_option linter.unusedVariables false
set_option maxRecDepth 4000

theorem brCycle_any (v : Value) (xs : List Int) (k : Int) (w : World) (h : Sits w v xs) :
    Calls Try.prog 55 #[v, .int .i64 k] w fun e w' => e = .returned (.bool (cycB xs k)) ∧ w = w' := by
  have HS := hid h
  obtain ⟨b, off, c, rfl, hc1, hm, hb, hc⟩ := h
  clear hc
  have hlen : (xs.length : Int) ≤ 9223372036854775807 := by omega
  cases h1 : inB k 1 6 with
  | false =>
    have HF := hid (show cycB xs k = false by unfold cycB; rw [h1]; rfl)
    go_enter Try.func55, Try.ntmps55
    go_wp2_with (first | (go_at_call 70; (refine (l1In_any _ _ _ _).mono ?_); (rintro e w' ⟨rfl, rfl⟩); (rw [h1])) | fail)
    go_ret
    exact ⟨ret_bool HF.out.symm, rfl⟩
  | true =>
    have hk := inB_iff.1 h1
    cases h2 : inB (xs.length : Int) 1 1024 with
    | false =>
      have HF := hid (show cycB xs k = false by unfold cycB; rw [h1, h2]; rfl)
      go_enter Try.func55, Try.ntmps55
      go_wp2_with (first
        | (go_at_call 70; (have HX := HF1); (refine (l1In_any _ _ _ _).mono ?_); (rintro e w' ⟨rfl, rfl⟩); (rw [h2]))
        | (go_at_call 70; (refine (l1In_any _ _ _ _).mono ?_); (rintro e w' ⟨rfl, rfl⟩); (rw [h1]); (have HF1 := hid trivial))
        | fail)
      go_ret
      exact ⟨ret_bool HF.out.symm, rfl⟩
    | true =>
      have HF := hid (show cycB xs k = allTo xs.length (fun i => inB (xs.getD i 0) 0 (k - 1)) by unfold cycB; rw [h1, h2]; rfl)
      go_enter Try.func55, Try.ntmps55
      go_wp2_with (first
        | (go_at_call 70; (have HX := HF1); (refine (l1In_any _ _ _ _).mono ?_); (rintro e w' ⟨rfl, rfl⟩); (rw [h2]))
        | (go_at_call 70; (refine (l1In_any _ _ _ _).mono ?_); (rintro e w' ⟨rfl, rfl⟩); (rw [h1]); (have HF1 := hid trivial))
        | (go_at_call 81; (refine (l1All_any _ xs _ _ _ HS.out).mono ?_); (rintro e w' ⟨rfl, rfl⟩))
        | fail)
      go_ret
      exact ⟨ret_bool HF.out.symm, rfl⟩
theorem impl_IsCycle_any (v : Value) (xs : List Int) (k : Int) (w : World) (h : Reads w v xs) :
    Calls Try.prog 64 #[v, .int .i64 k] w fun e w' => e = .returned (.bool (cycB xs k)) ∧ w = w' := by
  have HS := hid h
  obtain ⟨ao, c, rfl, hc1, hm, h⟩ := h.view
  clear h
  have hlen : (xs.length : Int) ≤ 9223372036854775807 := by omega
  cases h1 : inB k 1 6 with
  | false =>
    have HF := hid (show cycB xs k = false by unfold cycB; rw [h1]; rfl)
    go_enter Try.func64, Try.ntmps64
    go_wp2_with (first | (go_at_call 91; (refine (isLetterCount_any _ _).mono ?_); (rintro e w' ⟨rfl, rfl⟩); (rw [h1])) | fail)
    go_ret
    exact ⟨ret_bool HF.out.symm, rfl⟩
  | true =>
    by_cases h2 : 1 ≤ xs.length
    · by_cases h3 : xs.length ≤ 1024
      · have HF := hid (show cycB xs k = belowB xs k by unfold cycB; rw [h1, inB_iff.2 (by omega)]; rfl)
        have q1 : (1 : Int) ≤ (xs.length : Int) := by omega
        have q2 : (xs.length : Int) ≤ 1024 := by omega
        go_enter Try.func64, Try.ntmps64
        go_wp2_with (first
          | (go_at_call 91; (refine (isLetterCount_any _ _).mono ?_); (rintro e w' ⟨rfl, rfl⟩); (rw [h1]))
          | (go_at_call 92; (refine (areBelow_any _ xs _ _ HS.out).mono ?_); (rintro e w' ⟨rfl, rfl⟩))
          | fail)
        go_ret
        exact ⟨ret_bool HF.out.symm, rfl⟩
      · have HF := hid (show cycB xs k = false by unfold cycB; rw [h1, show inB (xs.length : Int) 1 1024 = false by simp [inB]; omega]; rfl)
        have q1 : (1 : Int) ≤ (xs.length : Int) := by omega
        have q2 : ¬ (xs.length : Int) ≤ 1024 := by omega
        go_enter Try.func64, Try.ntmps64
        go_wp2_with (first | (go_at_call 91; (refine (isLetterCount_any _ _).mono ?_); (rintro e w' ⟨rfl, rfl⟩); (rw [h1])) | fail)
        go_ret
        exact ⟨ret_bool HF.out.symm, rfl⟩
    · have HF := hid (show cycB xs k = false by unfold cycB; rw [h1, show inB (xs.length : Int) 1 1024 = false by simp [inB]; omega]; rfl)
      have q1 : ¬ (1 : Int) ≤ (xs.length : Int) := by omega
      go_enter Try.func64, Try.ntmps64
      go_wp2_with (first | (go_at_call 91; (refine (isLetterCount_any _ _).mono ?_); (rintro e w' ⟨rfl, rfl⟩); (rw [h1])) | fail)
      go_ret
      exact ⟨ret_bool HF.out.symm, rfl⟩
theorem isAnyCycle_any (v : Value) (xs : List Int) (w : World) (h : Reads w v xs) :
    Calls Try.prog 76 #[v] w fun e w' => e = .returned (.bool (cycB xs 6)) ∧ w = w' := by
  have HS := hid h
  go_enter Try.func76, Try.ntmps76
  go_wp2_with (first | (go_at_call 64; (refine (impl_IsCycle_any _ xs _ _ HS.out).mono ?_); (rintro e w' ⟨rfl, rfl⟩)) | fail)
  go_ret
  exact ⟨rfl, rfl⟩
/-- a tape: a cycle of at most 64 letters, at least lo -/
def tapB (xs : List Int) (lo : Int) : Bool := cycB xs 6 && inB (xs.length : Int) lo 64
theorem tapB_no {xs : List Int} {lo : Int} (h : cycB xs 6 = false) : tapB xs lo = false := by unfold tapB; rw [h]; rfl
theorem tapB_yes {xs : List Int} {lo : Int} (h : cycB xs 6 = true) : tapB xs lo = inB (xs.length : Int) lo 64 := by unfold tapB; rw [h]; rfl
theorem brTape_any (v : Value) (xs : List Int) (lo : Int) (w : World) (h : Sits w v xs) :
    Calls Try.prog 69 #[v, .int .i64 lo] w fun e w' => e = .returned (.bool (tapB xs lo)) ∧ w = w' := by
  have HS := hid h
  obtain ⟨b, off, c, rfl, hc1, hm, hb, hc⟩ := h
  clear hc
  cases h1 : cycB xs 6 with
  | false =>
    have HF := hid (tapB_no (lo := lo) h1)
    go_enter Try.func69, Try.ntmps69
    go_wp2_with (first | (go_at_call 55; (refine (brCycle_any _ xs _ _ HS.out).mono ?_); (rintro e w' ⟨rfl, rfl⟩); (rw [h1])) | fail)
    go_ret
    exact ⟨ret_bool HF.out.symm, rfl⟩
  | true =>
    have HF := hid (tapB_yes (lo := lo) h1)
    go_enter Try.func69, Try.ntmps69
    go_wp2_with (first
      | (go_at_call 55; (refine (brCycle_any _ xs _ _ HS.out).mono ?_); (rintro e w' ⟨rfl, rfl⟩); (rw [h1]))
      | (go_at_call 70; (refine (l1In_any _ _ _ _).mono ?_); (rintro e w' ⟨rfl, rfl⟩))
      | fail)
    go_ret
    exact ⟨ret_bool HF.out.symm, rfl⟩
theorem isTape_any (v : Value) (xs : List Int) (w : World) (h : Reads w v xs) :
    Calls Try.prog 75 #[v] w fun e w' => e = .returned (.bool (tapB xs 1)) ∧ w = w' := by
  have HS := hid h
  obtain ⟨ao, c, rfl, hc1, hm, h⟩ := h.view
  clear h
  have hlen : (xs.length : Int) ≤ 9223372036854775807 := by omega
  cases h1 : cycB xs 6 with
  | false =>
    have HF := hid (tapB_no (lo := 1) h1)
    go_enter Try.func75, Try.ntmps75
    go_wp2_with (first | (go_at_call 76; (refine (isAnyCycle_any _ xs _ HS.out).mono ?_); (rintro e w' ⟨rfl, rfl⟩); (rw [h1])) | fail)
    go_ret
    exact ⟨ret_bool HF.out.symm, rfl⟩
  | true =>
    have h2 := cycB_len h1
    have HF := hid (show tapB xs 1 = decide ((xs.length : Int) ≤ 64) by
      rw [tapB_yes h1, inB, decide_eq_true (show (1 : Int) ≤ (xs.length : Int) by omega), Bool.true_and])
    go_enter Try.func75, Try.ntmps75
    go_wp2_with (first | (go_at_call 76; (refine (isAnyCycle_any _ xs _ HS.out).mono ?_); (rintro e w' ⟨rfl, rfl⟩); (rw [h1])) | fail)
    go_ret
    exact ⟨ret_bool HF.out.symm, rfl⟩
theorem isSpreadTape_any (v : Value) (xs : List Int) (w : World) (h : Reads w v xs) :
    Calls Try.prog 72 #[v] w fun e w' => e = .returned (.bool (tapB xs 2)) ∧ w = w' := by
  have HS := hid h
  obtain ⟨ao, c, rfl, hc1, hm, h⟩ := h.view
  clear h
  have hlen : (xs.length : Int) ≤ 9223372036854775807 := by omega
  cases h1 : tapB xs 1 with
  | false =>
    have HF := hid (show tapB xs 2 = false by
      unfold tapB at h1 ⊢
      cases h2 : cycB xs 6 with
      | false => rfl
      | true =>
        rw [h2, Bool.true_and] at h1
        rw [Bool.true_and]
        simp only [inB, Bool.and_eq_false_iff, decide_eq_false_iff_not] at h1 ⊢
        omega)
    go_enter Try.func72, Try.ntmps72
    go_wp2_with (first | (go_at_call 75; (refine (isTape_any _ xs _ HS.out).mono ?_); (rintro e w' ⟨rfl, rfl⟩); (rw [h1])) | fail)
    go_ret
    exact ⟨ret_bool HF.out.symm, rfl⟩
  | true =>
    have HF := hid (show tapB xs 2 = decide ((2 : Int) ≤ (xs.length : Int)) by
      unfold tapB at h1 ⊢
      simp only [Bool.and_eq_true] at h1
      rw [h1.1, Bool.true_and, inB, decide_eq_true (inB_iff.1 h1.2).2, Bool.and_true])
    go_enter Try.func72, Try.ntmps72
    go_wp2_with (first | (go_at_call 75; (refine (isTape_any _ xs _ HS.out).mono ?_); (rintro e w' ⟨rfl, rfl⟩); (rw [h1])) | fail)
    go_ret
    exact ⟨ret_bool HF.out.symm, rfl⟩
end Go.Proofs.Ytaajfpjekfmddab
