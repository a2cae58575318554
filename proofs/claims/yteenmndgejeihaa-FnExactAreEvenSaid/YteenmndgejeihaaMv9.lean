/- Contracts: spec.IsMoveList, spec.MovesOf. Conditions: the slices read as lists (of lists, of moves of 64 bits). -/
import Derived.Test.YteenmndgejeihaaMv8
namespace Go.Proofs.Yteenmndgejeihaa
open Go.RowKit
set_option linter.unusedVariables false

def mlOk (n : Int) (L : List (List Int)) (ms : List Mv) : Bool := tkB n ms && plB n L
def imlV (n : Int) (L : List (List Int)) (ms : List Mv) : Bool := mlOk n L ms && (stB L ms && alB n.toNat L)
def mofB (n : Int) (L : List (List Int)) (ms : List Mv) : Bool := mlOk n L ms && stB L ms
def mofRes (n : Int) (L : List (List Int)) (ms : List Mv) : List Int := if mlOk n L ms = true then stRes L ms else []
theorem pl_parts {n : Int} {L : List (List Int)} (h : plB n L = true) : L.length ≤ 1100 ∧ ∀ t, t < L.length → ((L.getD t []).length : Int) = n ∧ permB (L.getD t []) = true := by
  simp only [plB, plAt, Bool.and_eq_true, decide_eq_true_eq, allTo_iff] at h
  exact ⟨h.2, h.1⟩
theorem stRes_len (L : List (List Int)) (ms : List Mv) : (stRes L ms).length ≤ L.length := by
  unfold stRes
  split
  · rw [stL_len]; omega
  · simp
theorem bound_MovesOf (n : Int) (L : List (List Int)) (ms : List Mv) : (mofRes n L ms).length ≤ 1048576 := by
  unfold mofRes
  split
  · rename_i h
    simp only [mlOk, Bool.and_eq_true] at h
    have := (pl_parts h.2).1
    have := stRes_len L ms
    omega
  · simp
theorem ret_bbA {a b : Bool} {c d : Bool} (h : a = b) (h' : c = d) : Ending.returned (.tuple #[.bool a, .bool c]) = .returned (.tuple #[.bool b, .bool d]) := by rw [h, h']
theorem spec_IsMoveList_any (n : Int) (v u : Value) (L : List (List Int)) (ms : List Mv) (base : Nat) (w : World) (h : Lists w base v L) (hm : ReadsM w u ms) (hw : wfM ms) :
    Calls Try.prog 39 #[.int .i64 n, v, u] w fun e w' => e = .returned (.tuple #[.bool (imlV n L ms), .bool (mlOk n L ms)]) ∧ Below w.heap.size w w' := by
  have HL := hid h
  have HM := hid hm
  have HW := hid hw
  clear h hm hw
  cases ht : tkB n ms with
  | false =>
    have HT := hid ht
    have HO := hid (show mlOk n L ms = false by rw [mlOk, ht]; rfl)
    have HV := hid (show imlV n L ms = false by rw [imlV, HO.out]; rfl)
    clear ht
    go_enter Try.func39, Try.ntmps39
    go_wp2_with (first | (go_at_call 87; refine (moTask_any n _ ms _ HM.out HW.out).mono ?_; rintro e w1 ⟨rfl, hb1⟩; rw [HT.out]; have HB1 := hid hb1; clear hb1) | fail)
    go_ret2
    exact ⟨ret_bbA HV.out.symm HO.out.symm, HB1.out⟩
  | true =>
    have HT := hid ht
    obtain ⟨h1, h5, h12, hg⟩ := tk_parts ht
    obtain ⟨N, rfl⟩ : ∃ N : Nat, n = (N : Int) := ⟨n.toNat, by omega⟩
    have HG := hid hg
    clear hg ht
    cases hp : plB (N : Int) L with
    | false =>
      have HP := hid hp
      have HO := hid (show mlOk N L ms = false by rw [mlOk, hp, Bool.and_false])
      have HV := hid (show imlV N L ms = false by rw [imlV, HO.out]; rfl)
      clear hp
      go_enter Try.func39, Try.ntmps39
      go_wp2_with (first
        | (go_at_call 87; refine (moTask_any _ _ ms _ HM.out HW.out).mono ?_; rintro e w1 ⟨rfl, hb1⟩; rw [HT.out]; have HL1 := hid (HL.out.below hb1); have HB1 := hid hb1; clear hb1)
        | (go_at_call 88; refine (moLists_any _ _ L _ _ HL1.out).mono ?_; rintro e w2 ⟨rfl, rfl⟩; rw [HP.out])
        | fail)
      go_ret2
      exact ⟨ret_bbA HV.out.symm HO.out.symm, HB1.out⟩
    | true =>
      have HP := hid hp
      have HO := hid (show mlOk N L ms = true by rw [mlOk, HT.out, hp]; rfl)
      have HV := hid (show imlV N L ms = (stB L ms && alB N L) by rw [imlV, HO.out, Bool.true_and, Int.toNat_natCast])
      have hpp := pl_parts hp
      have HLN := hid (show ∀ t, t < L.length → (L.getD t []).length = N from fun t ht => by have := (hpp.2 t ht).1; omega)
      have hlen := hpp.1
      clear hp hpp
      cases hs : stB L ms with
      | false =>
        have HS := hid hs
        have HV2 := hid (show imlV N L ms = false by rw [HV.out, hs]; rfl)
        clear hs
        go_enter Try.func39, Try.ntmps39
        go_wp2_with (first
          | (go_at_call 87; refine (moTask_any _ _ ms _ HM.out HW.out).mono ?_; rintro e w1 ⟨rfl, hb1⟩; rw [HT.out]; have HL1 := hid (HL.out.below hb1); have HM1 := hid (HM.out.below hb1); have HB1 := hid hb1; clear hb1)
          | (go_at_call 88; refine (moLists_any _ _ L _ _ HL1.out).mono ?_; rintro e w2 ⟨rfl, rfl⟩; rw [HP.out])
          | (go_at_call 89; refine (moSteps_any N _ _ L ms _ _ HL1.out HM1.out (by omega) (by omega) HLN.out HG.out).mono ?_; rintro e w2 ⟨r, rfl, _, hb2⟩; rw [HS.out]; have HB2 := hid (Below_chain HB1.out hb2); clear hb2)
          | fail)
        go_ret2
        exact ⟨ret_bbA HV2.out.symm HO.out.symm, HB2.out⟩
      | true =>
        have HS := hid hs
        have HV2 := hid (show imlV N L ms = alB N L by rw [HV.out, hs]; rfl)
        clear hs
        go_enter Try.func39, Try.ntmps39
        go_wp2_with (first
          | (go_at_call 87; refine (moTask_any _ _ ms _ HM.out HW.out).mono ?_; rintro e w1 ⟨rfl, hb1⟩; rw [HT.out]; have HL1 := hid (HL.out.below hb1); have HM1 := hid (HM.out.below hb1); have HB1 := hid hb1; clear hb1)
          | (go_at_call 88; refine (moLists_any _ _ L _ _ HL1.out).mono ?_; rintro e w2 ⟨rfl, rfl⟩; rw [HP.out])
          | (go_at_call 89; refine (moSteps_any N _ _ L ms _ _ HL1.out HM1.out (by omega) (by omega) HLN.out HG.out).mono ?_; rintro e w2 ⟨r, rfl, _, hb2⟩; rw [HS.out]; have HL2 := hid (HL1.out.below hb2); have HB2 := hid (Below_chain HB1.out hb2); clear hb2)
          | (go_at_call 90; refine (moAll_any N _ L _ _ HL2.out (by omega)).mono ?_; rintro e w3 ⟨rfl, hb3⟩; have HB3 := hid (Below_chain HB2.out hb3); clear hb3)
          | fail)
        go_ret2
        exact ⟨ret_bbA HV2.out.symm HO.out.symm, HB3.out⟩
theorem spec_MovesOf_any (n : Int) (v u : Value) (L : List (List Int)) (ms : List Mv) (base : Nat) (w : World) (h : Lists w base v L) (hm : ReadsM w u ms) (hw : wfM ms) :
    Calls Try.prog 45 #[.int .i64 n, v, u] w fun e w' => ∃ r, e = .returned (.tuple #[r, .bool (mofB n L ms)]) ∧ Own w' w.heap.size r (mofRes n L ms) ∧ Below w.heap.size w w' := by
  have HL := hid h
  have HM := hid hm
  have HW := hid hw
  clear h hm hw
  cases ht : tkB n ms with
  | false =>
    have HT := hid ht
    have HO := hid (show mlOk n L ms = false by rw [mlOk, ht]; rfl)
    have HV := hid (show mofB n L ms = false by rw [mofB, HO.out]; rfl)
    have HR := hid (show mofRes n L ms = [] by rw [mofRes, HO.out, if_neg (by simp)])
    clear ht
    go_enter Try.func45, Try.ntmps45
    go_wp2_with (first | (go_at_call 87; refine (moTask_any n _ ms _ HM.out HW.out).mono ?_; rintro e w1 ⟨rfl, hb1⟩; rw [HT.out]; have HB1 := hid hb1; clear hb1) | fail)
    go_ret2
    exact ⟨_, ret_sbA HV.out.symm, by rw [HR.out]; exact Own.nil _ _, HB1.out⟩
  | true =>
    have HT := hid ht
    obtain ⟨h1, h5, h12, hg⟩ := tk_parts ht
    obtain ⟨N, rfl⟩ : ∃ N : Nat, n = (N : Int) := ⟨n.toNat, by omega⟩
    have HG := hid hg
    clear hg ht
    cases hp : plB (N : Int) L with
    | false =>
      have HP := hid hp
      have HO := hid (show mlOk N L ms = false by rw [mlOk, hp, Bool.and_false])
      have HV := hid (show mofB N L ms = false by rw [mofB, HO.out]; rfl)
      have HR := hid (show mofRes N L ms = [] by rw [mofRes, HO.out, if_neg (by simp)])
      clear hp
      go_enter Try.func45, Try.ntmps45
      go_wp2_with (first
        | (go_at_call 87; refine (moTask_any _ _ ms _ HM.out HW.out).mono ?_; rintro e w1 ⟨rfl, hb1⟩; rw [HT.out]; have HL1 := hid (HL.out.below hb1); have HB1 := hid hb1; clear hb1)
        | (go_at_call 88; refine (moLists_any _ _ L _ _ HL1.out).mono ?_; rintro e w2 ⟨rfl, rfl⟩; rw [HP.out])
        | fail)
      go_ret2
      exact ⟨_, ret_sbA HV.out.symm, by rw [HR.out]; exact Own.nil _ _, HB1.out⟩
    | true =>
      have HP := hid hp
      have HO := hid (show mlOk N L ms = true by rw [mlOk, HT.out, hp]; rfl)
      have HV := hid (show mofB N L ms = stB L ms by rw [mofB, HO.out, Bool.true_and])
      have HR := hid (show mofRes N L ms = stRes L ms by rw [mofRes, HO.out, if_pos rfl])
      have hpp := pl_parts hp
      have HLN := hid (show ∀ t, t < L.length → (L.getD t []).length = N from fun t ht => by have := (hpp.2 t ht).1; omega)
      have hlen := hpp.1
      clear hp hpp
      go_enter Try.func45, Try.ntmps45
      go_wp2_with (first
        | (go_at_call 87; refine (moTask_any _ _ ms _ HM.out HW.out).mono ?_; rintro e w1 ⟨rfl, hb1⟩; rw [HT.out]; have HL1 := hid (HL.out.below hb1); have HM1 := hid (HM.out.below hb1); have HB1 := hid hb1; clear hb1)
        | (go_at_call 88; refine (moLists_any _ _ L _ _ HL1.out).mono ?_; rintro e w2 ⟨rfl, rfl⟩; rw [HP.out])
        | (go_at_call 89; refine (moSteps_any N _ _ L ms _ _ HL1.out HM1.out (by omega) (by omega) HLN.out HG.out).mono ?_; rintro e w2 ⟨r, rfl, ho, hb2⟩; have hs1 := HB1.out.size; have HOW := hid (ho.mono hs1); have HB2 := hid (Below_chain HB1.out hb2); clear hb2 ho)
        | fail)
      go_ret2
      exact ⟨_, ret_sbA HV.out.symm, by rw [HR.out]; exact HOW.out, HB2.out⟩
end Go.Proofs.Yteenmndgejeihaa
