/- Contracts on cycles: brCycle, both IsCycle, isAnyCycle, isTape, isSpreadTape, brTape, brWindow, both WindowAt. Conditions: slices that are not nil and read as lists of at most 2^20 numbers. -/
import Derived.Test.YteimfdpkodcfbaaBrM
import Derived.Test.YteimfdpkodcfbaaKind
namespace Go.Proofs.Yteimfdpkodcfbaa
open Go.RowKit
set_option linter.unusedVariables false
set_option maxRecDepth 4000

theorem brCycle_any (v : Value) (xs : List Int) (k : Int) (w : World) (h : Sits w v xs) :
    Calls Try.prog 78 #[v, .int .i64 k] w fun e w' => e = .returned (.bool (cycB xs k)) ∧ w = w' := by
  have HS := hid h
  obtain ⟨b, off, c, rfl, hc1, hm, hb, hc⟩ := h
  clear hc
  have hlen : (xs.length : Int) ≤ 9223372036854775807 := by omega
  cases h1 : inB k 1 6 with
  | false =>
    have HF := hid (show cycB xs k = false by unfold cycB; rw [h1]; rfl)
    go_enter Try.func78, Try.ntmps78
    go_wp2_with (first | (go_at_call 96; (refine (l1In_any _ _ _ _).mono ?_); (rintro e w' ⟨rfl, rfl⟩); (rw [h1])) | fail)
    go_ret
    exact ⟨ret_bool HF.out.symm, rfl⟩
  | true =>
    have hk := inB_iff.1 h1
    cases h2 : inB (xs.length : Int) 1 1024 with
    | false =>
      have HF := hid (show cycB xs k = false by unfold cycB; rw [h1, h2]; rfl)
      go_enter Try.func78, Try.ntmps78
      go_wp2_with (first
        | (go_at_call 96; (have HX := HF1); (refine (l1In_any _ _ _ _).mono ?_); (rintro e w' ⟨rfl, rfl⟩); (rw [h2]))
        | (go_at_call 96; (refine (l1In_any _ _ _ _).mono ?_); (rintro e w' ⟨rfl, rfl⟩); (rw [h1]); (have HF1 := hid trivial))
        | fail)
      go_ret
      exact ⟨ret_bool HF.out.symm, rfl⟩
    | true =>
      have HF := hid (show cycB xs k = allTo xs.length (fun i => inB (xs.getD i 0) 0 (k - 1)) by unfold cycB; rw [h1, h2]; rfl)
      go_enter Try.func78, Try.ntmps78
      go_wp2_with (first
        | (go_at_call 96; (have HX := HF1); (refine (l1In_any _ _ _ _).mono ?_); (rintro e w' ⟨rfl, rfl⟩); (rw [h2]))
        | (go_at_call 96; (refine (l1In_any _ _ _ _).mono ?_); (rintro e w' ⟨rfl, rfl⟩); (rw [h1]); (have HF1 := hid trivial))
        | (go_at_call 110; (refine (l1All_any _ xs _ _ _ HS.out).mono ?_); (rintro e w' ⟨rfl, rfl⟩))
        | fail)
      go_ret
      exact ⟨ret_bool HF.out.symm, rfl⟩
theorem impl_IsCycle_any (v : Value) (xs : List Int) (k : Int) (w : World) (h : Reads w v xs) :
    Calls Try.prog 82 #[v, .int .i64 k] w fun e w' => e = .returned (.bool (cycB xs k)) ∧ w = w' := by
  have HS := hid h
  obtain ⟨ao, c, rfl, hc1, hm, h⟩ := h.view
  clear h
  have hlen : (xs.length : Int) ≤ 9223372036854775807 := by omega
  cases h1 : inB k 1 6 with
  | false =>
    have HF := hid (show cycB xs k = false by unfold cycB; rw [h1]; rfl)
    go_enter Try.func82, Try.ntmps82
    go_wp2_with (first | (go_at_call 125; (refine (isLetterCount_any _ _).mono ?_); (rintro e w' ⟨rfl, rfl⟩); (rw [h1])) | fail)
    go_ret
    exact ⟨ret_bool HF.out.symm, rfl⟩
  | true =>
    by_cases h2 : 1 ≤ xs.length
    · by_cases h3 : xs.length ≤ 1024
      · have HF := hid (show cycB xs k = belowB xs k by unfold cycB; rw [h1, inB_iff.2 (by omega)]; rfl)
        have q1 : (1 : Int) ≤ (xs.length : Int) := by omega
        have q2 : (xs.length : Int) ≤ 1024 := by omega
        go_enter Try.func82, Try.ntmps82
        go_wp2_with (first
          | (go_at_call 125; (refine (isLetterCount_any _ _).mono ?_); (rintro e w' ⟨rfl, rfl⟩); (rw [h1]))
          | (go_at_call 126; (refine (areBelow_any _ xs _ _ HS.out).mono ?_); (rintro e w' ⟨rfl, rfl⟩))
          | fail)
        go_ret
        exact ⟨ret_bool HF.out.symm, rfl⟩
      · have HF := hid (show cycB xs k = false by unfold cycB; rw [h1, show inB (xs.length : Int) 1 1024 = false by simp [inB]; omega]; rfl)
        have q1 : (1 : Int) ≤ (xs.length : Int) := by omega
        have q2 : ¬ (xs.length : Int) ≤ 1024 := by omega
        go_enter Try.func82, Try.ntmps82
        go_wp2_with (first | (go_at_call 125; (refine (isLetterCount_any _ _).mono ?_); (rintro e w' ⟨rfl, rfl⟩); (rw [h1])) | fail)
        go_ret
        exact ⟨ret_bool HF.out.symm, rfl⟩
    · have HF := hid (show cycB xs k = false by unfold cycB; rw [h1, show inB (xs.length : Int) 1 1024 = false by simp [inB]; omega]; rfl)
      have q1 : ¬ (1 : Int) ≤ (xs.length : Int) := by omega
      go_enter Try.func82, Try.ntmps82
      go_wp2_with (first | (go_at_call 125; (refine (isLetterCount_any _ _).mono ?_); (rintro e w' ⟨rfl, rfl⟩); (rw [h1])) | fail)
      go_ret
      exact ⟨ret_bool HF.out.symm, rfl⟩
/-- a tape: a cycle of at most 64 letters, at least lo -/
def tapB (xs : List Int) (lo : Int) : Bool := cycB xs 6 && inB (xs.length : Int) lo 64
theorem tapB_no {xs : List Int} {lo : Int} (h : cycB xs 6 = false) : tapB xs lo = false := by unfold tapB; rw [h]; rfl
theorem tapB_yes {xs : List Int} {lo : Int} (h : cycB xs 6 = true) : tapB xs lo = inB (xs.length : Int) lo 64 := by unfold tapB; rw [h]; rfl
end Go.Proofs.Yteimfdpkodcfbaa
