/- Contracts: both NextMixed functions. Conditions: the slices read as lists of at most 2^20 numbers. -/
import Derived.Test.YtijjdidljoicfaaStep
namespace Go.Proofs.Ytijjdidljoicfaa
open Go.RowKit
set_option linter.unusedVariables false

def nmB (xs ys : List Int) : Bool := rankB xs ys && decide (mixR xs ys + 1 ≠ prodL xs)
def nmRes (xs ys : List Int) : List Int := if nmB xs ys = true then mixL xs (mixR xs ys + 1) else []
def nmI (xs ys : List Int) : Int := if nmB xs ys = true then (firstDiff ys (mixL xs (mixR xs ys + 1)) : Int) else 0
theorem nm_yes {xs ys : List Int} (h : nmB xs ys = true) : nmRes xs ys = mixL xs (mixR xs ys + 1) ∧ nmI xs ys = (firstDiff ys (mixL xs (mixR xs ys + 1)) : Int) := by
  unfold nmRes nmI; rw [if_pos h, if_pos h]; exact ⟨rfl, rfl⟩
theorem nm_no {xs ys : List Int} (h : nmB xs ys = false) : nmRes xs ys = [] ∧ nmI xs ys = 0 := by
  unfold nmRes nmI; rw [if_neg (by rw [h]; simp), if_neg (by rw [h]; simp)]; exact ⟨rfl, rfl⟩
theorem bound_NextMixed (xs ys : List Int) : (nmRes xs ys).length ≤ 1048576 := by
  cases h : nmB xs ys with
  | false => rw [(nm_no h).1]; simp
  | true =>
    rw [(nm_yes h).1, mixL_length]
    simp only [nmB, rankB, Bool.and_eq_true] at h
    have := (basesB_iff.1 h.1.1).1
    omega
/-- All that is known where there is a next one. -/
theorem nm_facts {xs ys : List Int} (h1 : basesB xs = true) (h2 : areDig xs ys = true) (h3 : mixR xs ys + 1 ≠ prodL xs) :
    0 ≤ mixR xs ys ∧ mixR xs ys + 1 < prodL xs ∧ ∃ d, Steps ys (mixL xs (mixR xs ys + 1)) (firstDiff ys (mixL xs (mixR xs ys + 1))) d := by
  obtain ⟨k1, k2, k3, k4⟩ := rankB_facts h1 h2
  have ho := ones_of_bases k2
  obtain ⟨r1, r2⟩ := mixR_range ho k4
  have hs := mixL_step ho (mixR xs ys) r1 (by omega)
  rw [mixL_mixR ho k4] at hs
  exact ⟨r1, by omega, Steps.of hs⟩
theorem dig_range {xs ys : List Int} (hall : allBases xs = true) (hd : okDig xs ys) : ∀ i, i < ys.length → 0 ≤ ys.getD i 0 ∧ ys.getD i 0 ≤ 12 := by
  intro i hi
  obtain ⟨h1, h2⟩ := okDig_iff.1 hd
  have h3 := h2 i hi
  have h4 := base_range hall (show i < xs.length by omega)
  omega
theorem ret_snb {u : Value} {a b : Int} {c d : Bool} (h : a = b) (h' : c = d) : Ending.returned (.tuple #[u, .int .i64 a, .bool c]) = .returned (.tuple #[u, .int .i64 b, .bool d]) := by rw [h, h']
theorem Own.sits_of {w : World} {lo : Nat} {v : Value} {xs : List Int} (h : Own w lo v xs) (hx : 0 < xs.length) : Sits w v xs := by
  rcases h.form with ⟨_, h2⟩ | ⟨g, cap, rfl, _, _, _, _, _, _⟩
  · rw [h2] at hx; simp at hx
  · exact h.sits
theorem spec_NextMixed_any (v : Value) (xs : List Int) (u : Value) (ys : List Int) (w : World) (h : Sits w v xs) (hl : xs.length ≤ 1048576) (hw : ∀ n ∈ xs, (Lit.int .i64 n).wf = true) (h' : Sits w u ys) (hl' : ys.length ≤ 1048576) (hw' : ∀ n ∈ ys, (Lit.int .i64 n).wf = true) :
    Calls Try.prog 15 #[v, u] w fun e w' => ∃ z, e = .returned (.tuple #[z, .int .i64 (nmI xs ys), .bool (nmB xs ys)]) ∧ Own w' w.heap.size z (nmRes xs ys) ∧ Below w.heap.size w w' := by
  have HS := hid h
  have HS' := hid h'
  clear h h' hw hw'
  by_cases h0 : rankB xs ys = true
  · have h1 : basesB xs = true := by simp only [rankB, Bool.and_eq_true] at h0; exact h0.1
    have h2 : areDig xs ys = true := by simp only [rankB, Bool.and_eq_true] at h0; exact h0.2
    have HQ := hid (rankB_facts h1 h2)
    have HV := hid (mrV_yes h0)
    have HR := hid (mixR_range (ones_of_bases HQ.out.2.1) HQ.out.2.2.2)
    by_cases h3 : mixR xs ys + 1 = prodL xs
    · have HF : Hid (nmB xs ys = false) := by show nmB xs ys = false; simp [nmB, h3]
      have HX := hid (nm_no HF.out)
      obtain ⟨r, hr⟩ : ∃ r, r = mixR xs ys := ⟨_, rfl⟩
      have HRR := hid hr
      obtain ⟨r1, r2⟩ := HR.out
      have hP := HQ.out.2.2.1
      rw [← hr] at r1 r2 h3
      have hbb : (r + 1 == prodL xs) = true := by simpa using h3
      have hw1 : IntKind.i64.wrap (r + 1) = r + 1 := IntWalk.i64_in _ (by omega)
      clear hr h3
      go_enter Try.func15, Try.ntmps15
      go_wp2_with (first
        | (go_at_call 48; refine (spec_MixedRank_any _ _ xs ys _ HS.out HS'.out).mono ?_; rintro e w1 ⟨rfl, hb1⟩; rw [HV.out, h0, ← HRR.out]; have HB1 := hid hb1; clear hb1)
        | (go_at_call 49; refine (raProduct_is _ xs _ (HS.out.below HB1.out) HQ.out.2.1 HQ.out.2.2.1).mono ?_; rintro e w' ⟨rfl, rfl⟩)
        | fail)
      go_ret3
      exact ⟨_, ret_snb HX.out.2.symm HF.out.symm, by rw [HX.out.1]; exact Own.nil _ _, HB1.out⟩
    · have HF : Hid (nmB xs ys = true) := by show nmB xs ys = true; simp [nmB, h0, h3]
      have HX := hid (nm_yes HF.out)
      obtain ⟨r1, r2, d, hst⟩ := nm_facts h1 h2 h3
      have HLM := hid (mixL_length xs (mixR xs ys + 1))
      obtain ⟨I, hI⟩ : ∃ I, I = firstDiff ys (mixL xs (mixR xs ys + 1)) := ⟨_, rfl⟩
      rw [← hI] at hst HX
      obtain ⟨r, hr⟩ : ∃ r, r = mixR xs ys := ⟨_, rfl⟩
      have HRR := hid hr
      have hP := HQ.out.2.2.1
      rw [← hr] at r1 r2 h3 hst HX HLM
      have HST := hid hst
      have hbb : (r + 1 == prodL xs) = false := by simpa using h3
      have hw1 : IntKind.i64.wrap (r + 1) = r + 1 := IntWalk.i64_in _ (by omega)
      have hr0 : 0 ≤ r + 1 := by omega
      have HYL := hid (show ys.length ≤ 12 by have := (okDig_iff.1 HQ.out.2.2.2).1; have := HQ.out.1; omega)
      clear hr h3 hI hst
      go_enter Try.func15, Try.ntmps15
      go_wp2_with (first
        | (go_at_call 48; refine (spec_MixedRank_any _ _ xs ys _ HS.out HS'.out).mono ?_; rintro e w1 ⟨rfl, hb1⟩; rw [HV.out, h0, ← HRR.out]; have HB1 := hid hb1; clear hb1)
        | (go_at_call 49; refine (raProduct_is _ xs _ (HS.out.below HB1.out) HQ.out.2.1 HQ.out.2.2.1).mono ?_; rintro e w' ⟨rfl, rfl⟩)
        | (go_at_call 50; refine (gcMixed_any xs _ (r + 1) _ (HS.out.below HB1.out) HQ.out.1 HQ.out.2.1 HQ.out.2.2.1 hr0 r2).mono ?_; rintro e w2 ⟨z, rfl, hz, hb2⟩; have HZ := hid (hz.mono HB1.out.size); have HB2 := hid (Below_chain HB1.out hb2); clear hz hb2)
        | (go_at_call 51; refine (gcStep_any _ _ ys _ I d _ (HS'.out.below HB2.out) (HZ.out.sits_of (by have := HST.out.len; have := HST.out.at_; omega)) HST.out HYL.out).mono ?_; rintro e w' ⟨rfl, rfl⟩)
        | fail)
      go_ret3
      exact ⟨_, ret_snb HX.out.2.symm HF.out.symm, by rw [HX.out.1]; exact HZ.out, HB2.out⟩
  · have h0 : rankB xs ys = false := by simpa using h0
    have HV := hid (mrV_no h0)
    have HF : Hid (nmB xs ys = false) := by show nmB xs ys = false; simp [nmB, h0]
    have HX := hid (nm_no HF.out)
    go_enter Try.func15, Try.ntmps15
    go_wp2_with (first
      | (go_at_call 48; refine (spec_MixedRank_any _ _ xs ys _ HS.out HS'.out).mono ?_; rintro e w1 ⟨rfl, hb1⟩; rw [HV.out, h0]; have HB1 := hid hb1; clear hb1)
      | fail)
    go_ret3
    exact ⟨_, ret_snb HX.out.2.symm HF.out.symm, by rw [HX.out.1]; exact Own.nil _ _, HB1.out⟩
theorem impl_NextMixed_any (v : Value) (xs : List Int) (u : Value) (ys : List Int) (w : World) (h : Sits w v xs) (hl : xs.length ≤ 1048576) (hw : ∀ n ∈ xs, (Lit.int .i64 n).wf = true) (h' : Sits w u ys) (hl' : ys.length ≤ 1048576) (hw' : ∀ n ∈ ys, (Lit.int .i64 n).wf = true) :
    Calls Try.prog 17 #[v, u] w fun e w' => ∃ z, e = .returned (.tuple #[z, .int .i64 (nmI xs ys), .bool (nmB xs ys)]) ∧ Own w' w.heap.size z (nmRes xs ys) ∧ Below w.heap.size w w' := by
  have HS := hid h
  have HS' := hid h'
  have HW := hid hw
  clear h h' hw hw'
  by_cases h0 : rankB xs ys = true
  · have h1 : basesB xs = true := by simp only [rankB, Bool.and_eq_true] at h0; exact h0.1
    have h2 : areDig xs ys = true := by simp only [rankB, Bool.and_eq_true] at h0; exact h0.2
    have HQ := hid (rankB_facts h1 h2)
    have HV := hid (mrV_yes h0)
    have HR := hid (mixR_range (ones_of_bases HQ.out.2.1) HQ.out.2.2.2)
    by_cases h3 : mixR xs ys + 1 = prodL xs
    · have HF : Hid (nmB xs ys = false) := by show nmB xs ys = false; simp [nmB, h3]
      have HX := hid (nm_no HF.out)
      have HD : Hid (digB xs (mixR xs ys + 1) = false) := by show _ = _; rw [digB_eq h1, h3]; simp [inB]; omega
      obtain ⟨r, hr⟩ : ∃ r, r = mixR xs ys := ⟨_, rfl⟩
      have HRR := hid hr
      obtain ⟨r1, r2⟩ := HR.out
      have hP := HQ.out.2.2.1
      rw [← hr] at r1 r2 h3 HD
      have hw1 : IntKind.i64.wrap (r + 1) = r + 1 := IntWalk.i64_in _ (by omega)
      have HWF := hid (show (Lit.int .i64 (r + 1)).wf = true from WalkArith.wf_i64 (by omega))
      clear hr h3
      go_enter Try.func17, Try.ntmps17
      go_wp2_with (first
        | (go_at_call 52; refine (impl_MixedRank_any _ _ xs ys _ HS.out HS'.out).mono ?_; rintro e w1 ⟨rfl, hb1⟩; rw [HV.out, h0, ← HRR.out]; have HB1 := hid hb1; clear hb1)
        | (go_at_call 53; refine (impl_MixedAt_any _ xs (r + 1) _ (HS.out.below HB1.out) hl HW.out HWF.out).mono ?_; rintro e w2 ⟨z, rfl, hz, hb2⟩; rw [HD.out]; have HB2 := hid (Below_chain HB1.out hb2); clear hz hb2)
        | fail)
      go_ret3
      exact ⟨_, ret_snb HX.out.2.symm HF.out.symm, by rw [HX.out.1]; exact Own.nil _ _, HB2.out⟩
    · have HF : Hid (nmB xs ys = true) := by show nmB xs ys = true; simp [nmB, h0, h3]
      have HX := hid (nm_yes HF.out)
      obtain ⟨r1, r2, d, hst⟩ := nm_facts h1 h2 h3
      have HD : Hid (digB xs (mixR xs ys + 1) = true) := by show _ = _; rw [digB_eq h1]; simp [inB]; omega
      have HM := hid (mxRes_yes HD.out)
      have HOK := hid (mixL_okDig (ones_of_bases HQ.out.2.1) (mixR xs ys + 1) (by omega) r2)
      have HLM := hid (mixL_length xs (mixR xs ys + 1))
      obtain ⟨I, hI⟩ : ∃ I, I = firstDiff ys (mixL xs (mixR xs ys + 1)) := ⟨_, rfl⟩
      rw [← hI] at hst HX
      obtain ⟨r, hr⟩ : ∃ r, r = mixR xs ys := ⟨_, rfl⟩
      have HRR := hid hr
      have hP := HQ.out.2.2.1
      rw [← hr] at r1 r2 h3 hst HX HLM HD HM HOK
      have HST := hid hst
      have hw1 : IntKind.i64.wrap (r + 1) = r + 1 := IntWalk.i64_in _ (by omega)
      have HWF := hid (show (Lit.int .i64 (r + 1)).wf = true from WalkArith.wf_i64 (by omega))
      have HYL := hid (show ys.length ≤ 12 by have := (okDig_iff.1 HQ.out.2.2.2).1; have := HQ.out.1; omega)
      clear hr h3 hI hst
      go_enter Try.func17, Try.ntmps17
      go_wp2_with (first
        | (go_at_call 52; refine (impl_MixedRank_any _ _ xs ys _ HS.out HS'.out).mono ?_; rintro e w1 ⟨rfl, hb1⟩; rw [HV.out, h0, ← HRR.out]; have HB1 := hid hb1; clear hb1)
        | (go_at_call 53; refine (impl_MixedAt_any _ xs (r + 1) _ (HS.out.below HB1.out) hl HW.out HWF.out).mono ?_; rintro e w2 ⟨z, rfl, hz, hb2⟩; rw [HM.out] at hz; rw [HD.out]; have HZ := hid (hz.mono HB1.out.size); have HB2 := hid (Below_chain HB1.out hb2); clear hz hb2)
        | (go_at_call 54; refine (changedDigit_any _ _ ys _ I d _ (HS'.out.below HB2.out) (HZ.out.sits_of (by have := HST.out.len; have := HST.out.at_; omega)) HST.out HYL.out (dig_range HQ.out.2.1 HQ.out.2.2.2) (dig_range HQ.out.2.1 HOK.out)).mono ?_; rintro e w3 ⟨rfl, q, rfl⟩)
        | fail)
      go_ret3
      exact ⟨_, ret_snb HX.out.2.symm HF.out.symm, by rw [HX.out.1]; exact HZ.out.below (below_drewN (Below.refl _ _) _), below_drewN HB2.out _⟩
  · have h0 : rankB xs ys = false := by simpa using h0
    have HV := hid (mrV_no h0)
    have HF : Hid (nmB xs ys = false) := by show nmB xs ys = false; simp [nmB, h0]
    have HX := hid (nm_no HF.out)
    go_enter Try.func17, Try.ntmps17
    go_wp2_with (first
      | (go_at_call 52; refine (impl_MixedRank_any _ _ xs ys _ HS.out HS'.out).mono ?_; rintro e w1 ⟨rfl, hb1⟩; rw [HV.out, h0]; have HB1 := hid hb1; clear hb1)
      | fail)
    go_ret3
    exact ⟨_, ret_snb HX.out.2.symm HF.out.symm, by rw [HX.out.1]; exact Own.nil _ _, HB1.out⟩
end Go.Proofs.Ytijjdidljoicfaa
