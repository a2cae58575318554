/- Contracts: impl.IsMoveList, impl.MovesOf. Conditions: the slices read as lists (of lists, not nil; of moves). -/
import Derived.Test.YteenmndgejeihaaStA
import Derived.Test.YteenmndgejeihaaOnPl
namespace Go.Proofs.Yteenmndgejeihaa
open Go.RowKit
set_option linter.unusedVariables false
set_option maxRecDepth 4000

set_option maxHeartbeats 1000000 in
theorem impl_IsMoveList_any (n : Int) (v u : Value) (L : List (List Int)) (ms : List Mv) (w : World) (h : SitsL w v L) (hm : ReadsM w u ms) :
    Calls Try.prog 42 #[.int .i64 n, v, u] w fun e w' => e = .returned (.tuple #[.bool (imlV n L ms), .bool (mlOk n L ms)]) ∧ Below w.heap.size w w' := by
  have HL := hid h
  have HM := hid hm
  obtain ⟨b, off, c, rfl⟩ := h.shape
  clear h hm
  cases ht : tkB n ms with
  | false =>
    have HT := hid ht
    have HO := hid (show mlOk n L ms = false by rw [mlOk, ht]; rfl)
    have HV := hid (show imlV n L ms = false by rw [imlV, HO.out]; rfl)
    clear ht
    go_enter Try.func42, Try.ntmps42
    go_wp2_with (first | (go_at_call 91; refine (moversOf_any n _ ms _ HM.out).mono ?_; rintro e w1 ⟨u1, rfl, _, hb1⟩; rw [HT.out]; have HB1 := hid hb1; clear hb1) | fail)
    go_ret2
    exact ⟨ret_bbA HV.out.symm HO.out.symm, HB1.out⟩
  | true =>
    have HT := hid ht
    obtain ⟨h1, h5, h12, hg⟩ := tk_parts ht
    obtain ⟨N, rfl⟩ : ∃ N : Nat, n = (N : Int) := ⟨n.toNat, by omega⟩
    have HG := hid hg
    clear hg ht
    cases hp : plB (N : Int) L with
    | false =>
      have HP := hid hp
      have HO := hid (show mlOk N L ms = false by rw [mlOk, hp, Bool.and_false])
      have HV := hid (show imlV N L ms = false by rw [imlV, HO.out]; rfl)
      clear hp
      go_enter Try.func42, Try.ntmps42
      go_wp2_with (first
        | (go_at_call 91; refine (moversOf_any _ _ ms _ HM.out).mono ?_; rintro e w1 ⟨u1, rfl, _, hb1⟩; rw [HT.out]; have HL1 := hid (HL.out.below hb1); have HB1 := hid hb1; clear hb1)
        | (go_at_call 92; refine (arePermutations_any _ _ L _ HL1.out).mono ?_; rintro e w2 ⟨rfl, hb2⟩; rw [HP.out]; have HB2 := hid (Below_chain HB1.out hb2); clear hb2)
        | fail)
      go_ret2
      exact ⟨ret_bbA HV.out.symm HO.out.symm, HB2.out⟩
    | true =>
      have HP := hid hp
      have HO := hid (show mlOk N L ms = true by rw [mlOk, HT.out, hp]; rfl)
      have HV := hid (show imlV N L ms = (stB L ms && alB N L) by rw [imlV, HO.out, Bool.true_and, Int.toNat_natCast])
      have hpp := pl_parts hp
      have HLN := hid (show ∀ t, t < L.length → (L.getD t []).length = N from fun t ht => by have := (hpp.2 t ht).1; omega)
      have hlen := hpp.1
      have hF : fact N ≤ 120 := fact_five (by omega)
      have HON := hid (onA_all hp)
      have HROW := hid (pl_row (show N ≤ 5 by omega) hp)
      have HRK := hid (pl_rank hp)
      obtain ⟨F, hFF⟩ : ∃ F, F = fact N := ⟨_, rfl⟩
      have HFF := hid hFF
      rw [← hFF] at hF HON HRK
      clear hp hpp hFF
      cases hs : stB L ms with
      | false =>
        have HS := hid hs
        have HV2 := hid (show imlV N L ms = false by rw [HV.out, hs]; rfl)
        clear hs
        go_enter Try.func42, Try.ntmps42
        go_wp2_with (first
          | (go_at_call 91; refine (moversOf_any _ _ ms _ HM.out).mono ?_; rintro e w1 ⟨u1, rfl, hmv, hb1⟩; obtain ⟨gm, rfl, hrm, _⟩ := hmv HT.out; rw [HT.out]; have HRM1 := hid hrm; have HL1 := hid (HL.out.below hb1); have HB1 := hid hb1; clear hb1 hmv hrm)
          | (go_at_call 92; refine (arePermutations_any _ _ L _ HL1.out).mono ?_; rintro e w2 ⟨rfl, hb2⟩; rw [HP.out]; have HL2 := hid (HL1.out.below hb2); have HRM2 := hid (RowMv.below HRM1.out hb2); have HB2 := hid (Below_chain HB1.out hb2); clear hb2)
          | (go_at_call 93; refine (stepsAlong_any N L ms gm b off c _ HL2.out HRM2.out (by omega) (by omega) (by omega) HLN.out HG.out).mono ?_; rintro e w3 ⟨r, rfl, _, hb3⟩; rw [HS.out]; have HB3 := hid (Below_chain HB2.out hb3); clear hb3)
          | fail)
        go_ret2
        exact ⟨ret_bbA HV2.out.symm HO.out.symm, HB3.out⟩
      | true =>
        have HS := hid hs
        have HV2 := hid (show imlV N L ms = alB N L by rw [HV.out, hs]; rfl)
        clear hs
        go_enter Try.func42, Try.ntmps42
        go_wp2_with (first
          | (go_at_call 91; refine (moversOf_any _ _ ms _ HM.out).mono ?_; rintro e w1 ⟨u1, rfl, hmv, hb1⟩; obtain ⟨gm, rfl, hrm, _⟩ := hmv HT.out; rw [HT.out]; have HRM1 := hid hrm; have HL1 := hid (HL.out.below hb1); have HB1 := hid hb1; clear hb1 hmv hrm)
          | (go_at_call 92; refine (arePermutations_any _ _ L _ HL1.out).mono ?_; rintro e w2 ⟨rfl, hb2⟩; rw [HP.out]; have HL2 := hid (HL1.out.below hb2); have HRM2 := hid (RowMv.below HRM1.out hb2); have HB2 := hid (Below_chain HB1.out hb2); clear hb2)
          | (go_at_call 93; refine (stepsAlong_any N L ms gm b off c _ HL2.out HRM2.out (by omega) (by omega) (by omega) HLN.out HG.out).mono ?_; rintro e w3 ⟨r, rfl, _, hb3⟩; rw [HS.out]; have HL3 := hid (HL2.out.below hb3); have HB3 := hid (Below_chain HB2.out hb3); clear hb3)
          | (go_at_call 67; refine (factorial_any N _ (by omega)).mono ?_; rintro e w4 ⟨rfl, rfl⟩; rw [← HFF.out])
          | (go_at_call 94; refine (areAllOnce_P F (by omega) _ L _ HL3.out HROW.out HRK.out).mono ?_; rintro e w5 ⟨rfl, hb5⟩; rw [HON.out]; have HB5 := hid (Below_chain HB3.out hb5); clear hb5)
          | fail)
        go_ret2
        exact ⟨ret_bbA HV2.out.symm HO.out.symm, HB5.out⟩
set_option maxHeartbeats 1000000 in
theorem impl_MovesOf_any (n : Int) (v u : Value) (L : List (List Int)) (ms : List Mv) (w : World) (h : SitsL w v L) (hm : ReadsM w u ms) :
    Calls Try.prog 46 #[.int .i64 n, v, u] w fun e w' => ∃ r, e = .returned (.tuple #[r, .bool (mofB n L ms)]) ∧ Own w' w.heap.size r (mofRes n L ms) ∧ Below w.heap.size w w' := by
  have HL := hid h
  have HM := hid hm
  obtain ⟨b, off, c, rfl⟩ := h.shape
  clear h hm
  cases ht : tkB n ms with
  | false =>
    have HT := hid ht
    have HO := hid (show mlOk n L ms = false by rw [mlOk, ht]; rfl)
    have HV := hid (show mofB n L ms = false by rw [mofB, HO.out]; rfl)
    have HR := hid (show mofRes n L ms = [] by rw [mofRes, HO.out, if_neg (by simp)])
    clear ht
    go_enter Try.func46, Try.ntmps46
    go_wp2_with (first | (go_at_call 91; refine (moversOf_any n _ ms _ HM.out).mono ?_; rintro e w1 ⟨u1, rfl, _, hb1⟩; rw [HT.out]; have HB1 := hid hb1; clear hb1) | fail)
    go_ret2
    exact ⟨_, ret_sbA HV.out.symm, by rw [HR.out]; exact Own.nil _ _, HB1.out⟩
  | true =>
    have HT := hid ht
    obtain ⟨h1, h5, h12, hg⟩ := tk_parts ht
    obtain ⟨N, rfl⟩ : ∃ N : Nat, n = (N : Int) := ⟨n.toNat, by omega⟩
    have HG := hid hg
    clear hg ht
    cases hp : plB (N : Int) L with
    | false =>
      have HP := hid hp
      have HO := hid (show mlOk N L ms = false by rw [mlOk, hp, Bool.and_false])
      have HV := hid (show mofB N L ms = false by rw [mofB, HO.out]; rfl)
      have HR := hid (show mofRes N L ms = [] by rw [mofRes, HO.out, if_neg (by simp)])
      clear hp
      go_enter Try.func46, Try.ntmps46
      go_wp2_with (first
        | (go_at_call 91; refine (moversOf_any _ _ ms _ HM.out).mono ?_; rintro e w1 ⟨u1, rfl, _, hb1⟩; rw [HT.out]; have HL1 := hid (HL.out.below hb1); have HB1 := hid hb1; clear hb1)
        | (go_at_call 92; refine (arePermutations_any _ _ L _ HL1.out).mono ?_; rintro e w2 ⟨rfl, hb2⟩; rw [HP.out]; have HB2 := hid (Below_chain HB1.out hb2); clear hb2)
        | fail)
      go_ret2
      exact ⟨_, ret_sbA HV.out.symm, by rw [HR.out]; exact Own.nil _ _, HB2.out⟩
    | true =>
      have HP := hid hp
      have HO := hid (show mlOk N L ms = true by rw [mlOk, HT.out, hp]; rfl)
      have HV := hid (show stB L ms = mofB N L ms by rw [mofB, HO.out, Bool.true_and])
      have HR := hid (show mofRes N L ms = stRes L ms by rw [mofRes, HO.out, if_pos rfl])
      have hpp := pl_parts hp
      have HLN := hid (show ∀ t, t < L.length → (L.getD t []).length = N from fun t ht => by have := (hpp.2 t ht).1; omega)
      have hlen := hpp.1
      clear hp hpp
      go_enter Try.func46, Try.ntmps46
      go_wp2_with (first
        | (go_at_call 91; refine (moversOf_any _ _ ms _ HM.out).mono ?_; rintro e w1 ⟨u1, rfl, hmv, hb1⟩; obtain ⟨gm, rfl, hrm, _⟩ := hmv HT.out; rw [HT.out]; have HRM1 := hid hrm; have HL1 := hid (HL.out.below hb1); have HB1 := hid hb1; clear hb1 hmv hrm)
        | (go_at_call 92; refine (arePermutations_any _ _ L _ HL1.out).mono ?_; rintro e w2 ⟨rfl, hb2⟩; rw [HP.out]; have HL2 := hid (HL1.out.below hb2); have HRM2 := hid (RowMv.below HRM1.out hb2); have HB2 := hid (Below_chain HB1.out hb2); clear hb2)
        | (go_at_call 93; refine (stepsAlong_any N L ms gm b off c _ HL2.out HRM2.out (by omega) (by omega) (by omega) HLN.out HG.out).mono ?_; rintro e w3 ⟨r, rfl, ho3, hb3⟩; rw [HV.out]; have HO3 := hid (ho3.mono HB2.out.size); have HB3 := hid (Below_chain HB2.out hb3); clear hb3 ho3)
        | fail)
      go_ret2
      exact ⟨_, rfl, by rw [HR.out]; exact HO3.out, HB3.out⟩
end Go.Proofs.Yteenmndgejeihaa
