/- Contracts: both IsEvenlyChanged functions. Conditions: the slice reads as a list of at most 2^20 numbers; the table of math/bits holds what the program's text lays. -/
import Derived.Test.YteejdagnlepegaaDoorEven
namespace Go.Proofs.YteejdagnlepegaaDoor
open Go.RowKit
set_option linter.unusedVariables false

/-- how often each bit changes, going once round -/
def ringC (n : Int) (xs : List Int) : List Int := countsL n.toNat (deltasL (ringL xs))
def ieV (n : Int) (xs : List Int) : Bool := irB n xs && evenB (ringC n xs)
theorem cnt_range (n : Nat) (ds : List Int) {i : Nat} (hi : i < n) : 0 ≤ (countsL n ds).getD i 0 ∧ (countsL n ds).getD i 0 ≤ ds.length := by
  rw [countsL_getD hi]
  have := cntTo_le ds i ds.length
  omega
set_option maxHeartbeats 2000000 in
theorem spec_IsEvenlyChanged_any (n : Int) (v : Value) (xs : List Int) (w : World) (_wn : (Lit.int .i64 n).wf = true) (h : Sits w v xs) (hl : xs.length ≤ 1048576) (_hwf : ∀ x ∈ xs, (Lit.int .i64 x).wf = true) (_ht : TZ w) :
    Calls Tryd.prog 22 #[.int .i64 n, v] w fun e w' => e = .returned (.tuple #[.bool (ieV n xs), .bool (irB n xs)]) ∧ Below w.heap.size w w' := by
  have HS := hid h
  clear h
  by_cases h1 : wordsB n xs = true
  · have HSM := hid (wordsB_small h1)
    have HN := hid (wordsB_iff.1 h1).1
    by_cases h2 : roundB n xs = true
    · have hir : irB n xs = true := by rw [irB, h1, h2]; rfl
      obtain ⟨_, f1, f2, f3, f4, m, rfl, hm1, hm10⟩ := irB_facts hir
      have HBI := hid (delta_lt f4 rfl f3)
      have HDR := hid (deltasR_yes f3)
      have HLD := hid (show (deltasL (ringL xs)).length ≤ 1048576 by rw [deltasL_length, ringL_length]; omega)
      have hm20 : m ≤ 1048576 := by omega
      obtain ⟨cs, hcs⟩ : ∃ cs, cs = countsL m (deltasL (ringL xs)) := ⟨_, rfl⟩
      have HCS := hid hcs
      have HCL : Hid (cs.length = m) := by show _ = _; rw [hcs, countsL_length]
      have HCR : Hid (∀ i, i < cs.length → 0 ≤ cs.getD i 0 ∧ cs.getD i 0 ≤ 1048576) := by
        show ∀ _ _, _
        intro i hi
        have := cnt_range m (deltasL (ringL xs)) (i := i) (by rw [← HCL.out]; exact hi)
        rw [← hcs] at this
        have := HLD.out
        omega
      have HV : Hid (ieV (m : Int) xs = evenB cs ∧ irB (m : Int) xs = true) := by
        show _ ∧ _
        rw [ieV, hir, ringC, hcs]; exact ⟨rfl, rfl⟩
      clear hcs f3 f4 hir
      go_enter Tryd.func22, Tryd.ntmps22
      go_wp2_with (first
        | (go_at_call 28; refine (gcWords_any _ _ xs _ HS.out).mono ?_; rintro e w' ⟨rfl, rfl⟩; rw [h1])
        | (go_at_call 36; refine (gcRound_any _ _ xs _ HS.out HSM.out hl HN.out).mono ?_; rintro e w1 ⟨rfl, hb1⟩; rw [h2]; have HB1 := hid hb1; clear hb1)
        | (go_at_call 38; refine (gcAround_any _ xs _ (HS.out.below HB1.out) HSM.out f1 f2).mono ?_; rintro e w2 ⟨u2, rfl, ho2, hb2⟩; rw [HDR.out] at ho2; have HO2 := hid ho2; have HB2 := hid (Below_chain HB1.out hb2); clear ho2 hb2)
        | (go_at_call 32; refine (gcChanges_any m _ (deltasL (ringL xs)) _ HO2.out.reads hm20 HLD.out HBI.out).mono ?_; rintro e w3 ⟨z, rfl, hz, hb3, hzz⟩; subst hzz; rw [← HCS.out] at hz; have HZ := hid hz; have HB3 := hid (Below_chain HB2.out hb3); clear hz hb3)
        | fail)
      obtain ⟨g, hg⟩ : ∃ g, g = w2.heap.size := ⟨_, rfl⟩
      rw [← hg] at HZ ⊢
      clear hg
      rcases HZ.out.form with ⟨hno, _⟩ | ⟨g2, cap2, he, _, hlt2, _, _, hcell, _⟩
      · exact absurd hno (by simp)
      · simp only [Value.slice.injEq, Option.some.injEq, Addr.mk.injEq, and_true] at he
        obtain ⟨rfl, he2, rfl⟩ := he
        have HC := hid hcell
        have HML := hid he2
        clear hcell he2
        have hmc : m = cs.length := HCL.out.symm
        rw [hmc]
        have hcl10 : cs.length ≤ 10 := by omega
        clear hmc
        go_loop [8, 27] (fun _ i => ∃ k : Nat, k ≤ cs.length ∧ i = .int .i64 k ∧ allTo k (evenAt cs) = true) (fun _ i => cs.length - (intOf i).toNat)
        case atStart => exact ⟨0, Nat.zero_le _, rfl, rfl⟩
        case round =>
          obtain ⟨k, hk, rfl, hall⟩ := hrel
          have HA := hid hall
          clear hall
          by_cases hlt : k < cs.length
          · have hck := HC.out k hlt
            rw [Nat.zero_add] at hck
            have hrk := HCR.out k hlt
            obtain ⟨x, hx⟩ : ∃ x, x = cs.getD k 0 := ⟨_, rfl⟩
            rw [← hx] at hck hrk
            have HX := hid hx
            clear hx
            go_wp2
            go_loop [10, 33] (fun _ i => ∃ j : Nat, j ≤ cs.length ∧ i = .int .i64 j ∧ allTo j (fun t => decide (cs.getD k 0 ≤ cs.getD t 0 + 2)) = true) (fun _ i => cs.length - (intOf i).toNat)
            case atStart => exact ⟨0, Nat.zero_le _, rfl, rfl⟩
            case round =>
              obtain ⟨j, hj, rfl, hall⟩ := hrel
              have HA2 := hid hall
              clear hall
              by_cases hjt : j < cs.length
              · have hcj := HC.out j hjt
                rw [Nat.zero_add] at hcj
                have hrj := HCR.out j hjt
                obtain ⟨y, hy⟩ : ∃ y, y = cs.getD j 0 := ⟨_, rfl⟩
                rw [← hy] at hcj hrj
                have HY := hid hy
                clear hy
                have hs : IntKind.i64.wrap (y + 2) = y + 2 := IntWalk.i64_in _ (by omega)
                by_cases hgt : y + 2 < x
                · have HF : Hid (evenB cs = false) := by
                    show evenB cs = false
                    refine allTo_no hlt (allTo_no hjt ?_)
                    rw [← HX.out, ← HY.out]; simp; omega
                  go_wp2
                  go_ret2
                  exact ⟨ret_bb (by rw [HV.out.1, HF.out]) HV.out.2.symm, HB3.out⟩
                · have HN2 : Hid (allTo (j + 1) (fun t => decide (cs.getD k 0 ≤ cs.getD t 0 + 2)) = true) := by
                    show _ = _
                    exact allTo_next HA2.out (by rw [← HX.out, ← HY.out]; simp; omega)
                  go_wp2
                  go_round
                  case rel => exact ⟨j + 1, by omega, by go_num, HN2.out⟩
                  case measure => simp [intOf]; omega
              · obtain rfl : j = cs.length := by omega
                have HN2 : Hid (allTo (k + 1) (evenAt cs) = true) := by show _ = _; exact allTo_next HA.out HA2.out
                go_wp2
                go_round
                case rel => exact ⟨k + 1, by omega, by go_num, HN2.out⟩
                case measure => simp [intOf]; omega
          · obtain rfl : k = cs.length := by omega
            have HF : Hid (evenB cs = true) := by show evenB cs = true; exact HA.out
            go_wp2
            go_ret2
            exact ⟨ret_bb (by rw [HV.out.1, HF.out]) HV.out.2.symm, HB3.out⟩
    · have h2 : roundB n xs = false := by simpa using h2
      have HV : Hid (ieV n xs = false ∧ irB n xs = false) := by show _ ∧ _; rw [ieV, irB, h2]; simp
      go_enter Tryd.func22, Tryd.ntmps22
      go_wp2_with (first
        | (go_at_call 28; refine (gcWords_any _ _ xs _ HS.out).mono ?_; rintro e w' ⟨rfl, rfl⟩; rw [h1])
        | (go_at_call 36; refine (gcRound_any _ _ xs _ HS.out HSM.out hl HN.out).mono ?_; rintro e w1 ⟨rfl, hb1⟩; rw [h2]; have HB1 := hid hb1; clear hb1)
        | fail)
      go_ret2
      exact ⟨ret_bb HV.out.1.symm HV.out.2.symm, HB1.out⟩
  · have h1 : wordsB n xs = false := by simpa using h1
    have HV : Hid (ieV n xs = false ∧ irB n xs = false) := by show _ ∧ _; rw [ieV, irB, h1]; simp
    go_enter Tryd.func22, Tryd.ntmps22
    go_wp2_with (first | (go_at_call 28; refine (gcWords_any _ _ xs _ HS.out).mono ?_; rintro e w' ⟨rfl, rfl⟩; rw [h1]) | fail)
    go_ret2
    exact ⟨ret_bb HV.out.1.symm HV.out.2.symm, Below.refl _ _⟩
set_option maxHeartbeats 2000000 in
theorem impl_IsEvenlyChanged_any (n : Int) (v : Value) (xs : List Int) (w : World) (_wn : (Lit.int .i64 n).wf = true) (h : Sits w v xs) (hl : xs.length ≤ 1048576) (_hwf : ∀ x ∈ xs, (Lit.int .i64 x).wf = true) (ht : TZ w) :
    Calls Tryd.prog 23 #[.int .i64 n, v] w fun e w' => e = .returned (.tuple #[.bool (ieV n xs), .bool (irB n xs)]) ∧ Below w.heap.size w w' := by
  have HS := hid h
  have HT := hid ht
  have HW := hid _hwf
  have _wn' := _wn
  clear h ht _hwf
  by_cases hir : irB n xs = true
  · have hres := irRes_yes hir
    obtain ⟨_, f1, f2, f3, f4, m, rfl, hm1, hm10⟩ := irB_facts hir
    have HBI := hid (delta_lt f4 rfl f3)
    have HRES := hid hres
    have HLD := hid (show (deltasL (ringL xs)).length ≤ 1048576 by rw [deltasL_length, ringL_length]; omega)
    have hm20 : m ≤ 1048576 := by omega
    obtain ⟨cs, hcs⟩ : ∃ cs, cs = countsL m (deltasL (ringL xs)) := ⟨_, rfl⟩
    have HCS := hid hcs
    have HCL : Hid (cs.length = m) := by show _ = _; rw [hcs, countsL_length]
    have HCR : Hid (∀ i, i < cs.length → 0 ≤ cs.getD i 0 ∧ cs.getD i 0 ≤ 1048576) := by
      show ∀ _ _, _
      intro i hi
      have := cnt_range m (deltasL (ringL xs)) (i := i) (by rw [← HCL.out]; exact hi)
      rw [← hcs] at this
      have := HLD.out
      omega
    have HV : Hid (ieV (m : Int) xs = evenB cs ∧ irB (m : Int) xs = true) := by
      show _ ∧ _
      rw [ieV, hir, ringC, hcs]; exact ⟨rfl, rfl⟩
    have HIR := hid hir
    have hcp : 0 < cs.length := by rw [HCL.out]; omega
    have hcl20 : cs.length ≤ 1048576 := by rw [HCL.out]; omega
    clear hcs f3 f4 hir hres
    go_enter Tryd.func23, Tryd.ntmps23
    go_wp2_with (first
      | (go_at_call 37; refine (changesAround_any _ _ xs _ _wn' HS.out hl HW.out HT.out).mono ?_; rintro e w2 ⟨u2, rfl, ho2, hb2⟩; rw [HIR.out]; rw [HRES.out] at ho2; have HO2 := hid ho2; have HB2 := hid hb2; clear ho2 hb2)
      | (go_at_call 33; refine (countBits_any m _ (deltasL (ringL xs)) _ HO2.out.reads hm20 HLD.out HBI.out).mono ?_; rintro e w3 ⟨z, rfl, hz, hb3, hzz⟩; subst hzz; rw [← HCS.out] at hz; have HZ := hid (hz.sits_pos hcp); have HB3 := hid (Below_chain HB2.out hb3); clear hz hb3)
      | (go_at_call 39; refine (Max_any _ cs _ HZ.out hcp hcl20).mono ?_; rintro e w' ⟨a, rfl, ha, rfl⟩; have HMA := hid ha; clear ha)
      | (go_at_call 40; refine (Min_any _ cs _ HZ.out hcp hcl20).mono ?_; rintro e w' ⟨b, rfl, hb, rfl⟩; have HMI := hid hb; clear hb; have hra : 0 ≤ a ∧ a ≤ 1048576 := (by obtain ⟨_, i, hi, rfl⟩ := HMA.out; exact HCR.out i hi); have hrb : 0 ≤ b ∧ b ≤ 1048576 := (by obtain ⟨_, i, hi, rfl⟩ := HMI.out; exact HCR.out i hi); have hsub : IntKind.i64.wrap (a - b) = a - b := IntWalk.i64_in _ (by omega); have HEV := hid (even_max HMA.out HMI.out))
      | fail)
    go_ret2
    exact ⟨ret_bb (by rw [HV.out.1, HEV.out]) HV.out.2.symm, HB3.out⟩
  · have hir : irB n xs = false := by simpa using hir
    have HV : Hid (ieV n xs = false ∧ irB n xs = false) := by show _ ∧ _; rw [ieV, hir]; exact ⟨rfl, rfl⟩
    have HIR := hid hir
    clear hir
    go_enter Tryd.func23, Tryd.ntmps23
    go_wp2_with (first
      | (go_at_call 37; refine (changesAround_any _ _ xs _ _wn' HS.out hl HW.out HT.out).mono ?_; rintro e w2 ⟨u2, rfl, ho2, hb2⟩; rw [HIR.out]; have HB2 := hid hb2; clear ho2 hb2)
      | fail)
    go_ret2
    exact ⟨ret_bb HV.out.1.symm HV.out.2.symm, HB2.out⟩
end Go.Proofs.YteejdagnlepegaaDoor
