/- Contracts: areTaps; RegisterWord and its model, as the law calls them. Conditions: slices that are not nil and read as lists of at most 2^20 numbers. -/
import Derived.Test.YtaajfpjekfmddabRg1
namespace Go.Proofs.Ytaajfpjekfmddab
open Go.RowKit
set_option linter.unusedVariables false
set_option maxRecDepth 4000

theorem areTaps_any (v : Value) (ts : List Int) (n : Int) (w : World) (h : Sits w v ts) :
    Calls Try.prog 67 #[v, .int .i64 n] w fun e w' => e = .returned (.bool (tapsB ts n)) ∧ Below w.heap.size w w' := by
  have HS := hid h
  obtain ⟨b, off, c, rfl, hc1, hm, hb, hc⟩ := h
  have hlen : (ts.length : Int) ≤ 9223372036854775807 := by omega
  by_cases h1 : n < 1
  · have HF := hid (tapsB_0 (ts := ts) (show inB n 1 10 = false by simp [inB]; omega))
    clear hc
    go_enter Try.func67, Try.ntmps67
    go_wp2_with fail
    go_ret
    exact ⟨ret_bool HF.out.symm, Below.refl _ _⟩
  · by_cases h1' : 10 < n
    · have HF := hid (tapsB_0 (ts := ts) (show inB n 1 10 = false by simp [inB]; omega))
      clear hc
      go_enter Try.func67, Try.ntmps67
      go_wp2_with fail
      go_ret
      exact ⟨ret_bool HF.out.symm, Below.refl _ _⟩
    · have hin : inB n 1 10 = true := inB_iff.2 (by omega)
      have HCR := hid (comb_rise (ts := ts) hin)
      cases hr : risingB ts 0 (n - 1) with
      | false =>
        have HF := hid (show tapsB ts n = false by unfold tapsB; rw [hr, Bool.and_false, Bool.and_false, Bool.and_false])
        have HC := hid (HCR.out.trans hr)
        clear hc
        go_enter Try.func67, Try.ntmps67
        go_wp2_with (first | (go_at_call 94; (refine (impl_IsCombination_any n _ ts _ HS.out.reads).mono ?_); (rintro e w' ⟨rfl, hd⟩); (rw [HC.out]); (have HD := hid (Drew.below hd w.heap.size)); (clear hd)) | fail)
        go_ret
        exact ⟨ret_bool HF.out.symm, HD.out⟩
      | true =>
        have HC := hid (HCR.out.trans hr)
        by_cases h2 : 0 < ts.length
        · have hcx := hc 0 h2
          rw [Nat.add_zero] at hcx
          have q1 : (0 : Int) < (ts.length : Int) := by omega
          have HG := hid (getD_at h2)
          obtain ⟨x, hx⟩ : ∃ x, x = ts[0] := ⟨_, rfl⟩
          rw [← hx] at hcx HG
          have HCX := hid hcx
          clear hc hx hcx
          by_cases h3 : x = 0
          · have HF := hid ((tapsB_3 hin h2 (HG.out.trans h3)).trans hr)
            subst h3
            go_enter Try.func67, Try.ntmps67
            go_wp2_with (first | (go_at_call 94; (refine (impl_IsCombination_any n _ ts _ HS.out.reads).mono ?_); (rintro e w' ⟨rfl, hd⟩); (rw [HC.out]); (have HD := hid (Drew.below hd w.heap.size)); (have hcx := (HD.out.cell (by exact hb)).trans HCX.out); (clear hd)) | fail)
            go_ret
            exact ⟨ret_bool HF.out.symm, HD.out⟩
          · have HF := hid (tapsB_2 (n := n) (fun e => h3 (HG.out.symm.trans e)))
            have hxb : (x == 0) = false := by simp [h3]
            go_enter Try.func67, Try.ntmps67
            go_wp2_with (first | (go_at_call 94; (refine (impl_IsCombination_any n _ ts _ HS.out.reads).mono ?_); (rintro e w' ⟨rfl, hd⟩); (rw [HC.out]); (have HD := hid (Drew.below hd w.heap.size)); (have hcx := (HD.out.cell (by exact hb)).trans HCX.out); (clear hd)) | fail)
            go_ret
            exact ⟨ret_bool HF.out.symm, HD.out⟩
        · have HF := hid (tapsB_1 (n := n) h2)
          have q1 : ¬ (0 : Int) < (ts.length : Int) := by omega
          clear hc
          go_enter Try.func67, Try.ntmps67
          go_wp2_with (first | (go_at_call 94; (refine (impl_IsCombination_any n _ ts _ HS.out.reads).mono ?_); (rintro e w' ⟨rfl, hd⟩); (rw [HC.out]); (have HD := hid (Drew.below hd w.heap.size)); (clear hd)) | fail)
          go_ret
          exact ⟨ret_bool HF.out.symm, HD.out⟩
def rgL (ts : List Int) (n : Int) : List Int := atB (tapsB ts n) [] (regR ts n.toNat)
theorem rgL_no {ts : List Int} {n : Int} (h : tapsB ts n = false) : rgL ts n = [] := atB_no h
theorem rgL_yes {ts : List Int} {n : Nat} (h : tapsB ts n = true) : rgL ts n = regR ts n := by unfold rgL; rw [atB_yes h, Int.toNat_natCast]
theorem tapsB_nat {ts : List Int} {n : Int} (h : tapsB ts n = true) : ∃ a : Nat, n = (a : Int) ∧ TapsOk ts a := by
  have h1 : 1 ≤ n := by
    have := h
    unfold tapsB at this
    simp only [Bool.and_eq_true, inB_iff] at this
    omega
  obtain ⟨a, rfl⟩ : ∃ a : Nat, n = (a : Int) := ⟨n.toNat, by omega⟩
  exact ⟨a, rfl, tapsB_ok h⟩
theorem perN_1025 {ts : List Int} {n : Nat} (h : TapsOk ts n) : perN ts n ≤ 1025 := by
  have h1 := perN_le ts n
  have h2 : 2 ^ n ≤ 1024 := Nat.pow_le_pow_right (by omega) h.2.1
  omega
theorem bound_RegisterWord (ts : List Int) (n : Int) : (rgL ts n).length ≤ 1048576 := by
  cases h : tapsB ts n with
  | false => rw [rgL_no h]; simp
  | true =>
    obtain ⟨a, rfl, hT⟩ := tapsB_nat h
    rw [rgL_yes h, regR_len ts hT.1]
    have := perN_1025 hT
    omega
theorem law_spec_RegisterWord (v : Value) (ts : List Int) (n : Int) (w : World) (h : Sits w v ts) (hl : ts.length ≤ 1048576) (_hwf : ∀ x ∈ ts, (Lit.int .i64 x).wf = true) (_wn : (Lit.int .i64 n).wf = true) :
    Calls Try.prog 30 #[v, .int .i64 n] w fun e w' => ∃ r, e = .returned (.tuple #[r, .bool (tapsB ts n)]) ∧ OwnE w' w.heap.size r (rgL ts n) ∧ Below w.heap.size w w' := by
  have HS := hid h
  cases h1 : tapsB ts n with
  | false =>
    go_enter Try.func30, Try.ntmps30
    go_wp2_with (first | (go_at_call 65; (refine (brTaps_any _ ts _ _ HS.out).mono ?_); (rintro e w1 ⟨rfl, rfl⟩); (rw [h1])) | fail)
    go_ret2
    exact ⟨_, rfl, by rw [rgL_no h1]; exact (Own.nil _ _).e, Below.refl _ _⟩
  | true =>
    obtain ⟨a, rfl, hT⟩ := tapsB_nat h1
    have HT := hid hT
    have HR := hid (rgL_yes h1)
    clear hT
    go_enter Try.func30, Try.ntmps30
    go_wp2_with (first
      | (go_at_call 65; (refine (brTaps_any _ ts _ _ HS.out).mono ?_); (rintro e w1 ⟨rfl, rfl⟩); (rw [h1]))
      | (go_at_call 66; (refine (brRegister_any _ ts a _ HS.out HT.out).mono ?_); (rintro e w2 ⟨u, rfl, ho, hb⟩); (have HO := hid ho); (have HB := hid hb); (clear ho hb))
      | fail)
    go_ret2
    exact ⟨_, rfl, by rw [HR.out]; exact HO.out.e, HB.out⟩
theorem law_impl_RegisterWord (v : Value) (ts : List Int) (n : Int) (w : World) (h : Sits w v ts) (hl : ts.length ≤ 1048576) (_hwf : ∀ x ∈ ts, (Lit.int .i64 x).wf = true) (_wn : (Lit.int .i64 n).wf = true) :
    Calls Try.prog 31 #[v, .int .i64 n] w fun e w' => ∃ r, e = .returned (.tuple #[r, .bool (tapsB ts n)]) ∧ OwnE w' w.heap.size r (rgL ts n) ∧ Below w.heap.size w w' := by
  have HS := hid h
  cases h1 : tapsB ts n with
  | false =>
    go_enter Try.func31, Try.ntmps31
    go_wp2_with (first | (go_at_call 67; (refine (areTaps_any _ ts _ _ HS.out).mono ?_); (rintro e w1 ⟨rfl, hb1⟩); (have HB1 := hid hb1); (clear hb1); (rw [h1])) | fail)
    go_ret2
    exact ⟨_, rfl, by rw [rgL_no h1]; exact (Own.nil _ _).e, HB1.out⟩
  | true =>
    obtain ⟨a, rfl, hT⟩ := tapsB_nat h1
    have HT := hid hT
    have HR := hid (rgL_yes h1)
    clear hT
    go_enter Try.func31, Try.ntmps31
    go_wp2_with (first
      | (go_at_call 67; (refine (areTaps_any _ ts _ _ HS.out).mono ?_); (rintro e w1 ⟨rfl, hb1⟩); (have HB1 := hid hb1); (have HS1 := hid (HS.out.below hb1)); (clear hb1); (rw [h1]))
      | (go_at_call 68; (refine (registerWord_any _ ts a _ HS1.out HT.out).mono ?_); (rintro e w2 ⟨u, rfl, ho, hb⟩); (have HO := hid (ho.mono HB1.out.size)); (have HB := hid (Below_chain HB1.out hb)); (clear ho hb))
      | fail)
    go_ret2
    exact ⟨_, rfl, by rw [HR.out]; exact HO.out, HB.out⟩
end Go.Proofs.Ytaajfpjekfmddab
