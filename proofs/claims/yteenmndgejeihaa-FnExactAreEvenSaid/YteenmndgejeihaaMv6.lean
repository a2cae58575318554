/- Contracts: spec.AreEven, moLists, moWhich. Conditions: the slices read as lists (of moves, of lists). -/
import Derived.Test.YteenmndgejeihaaMv5
import Derived.Test.YteenmndgejeihaaLists
import Derived.Test.YteenmndgejeihaaAll1
namespace Go.Proofs.Yteenmndgejeihaa
open Go.RowKit
set_option linter.unusedVariables false

theorem mvB_mono {n m k i j : Int} (h : mvB n k i j = true) (hm : n ≤ m) : mvB m k i j = true := by
  unfold mvB at h ⊢
  split
  · rw [if_pos (by assumption), Bool.and_eq_true, inB_iff, inB_iff] at h
    rw [Bool.and_eq_true, inB_iff, inB_iff]
    omega
  · rw [if_neg (by assumption)] at h
    split
    · rw [if_pos (by assumption), Bool.and_eq_true, inB_iff, decide_eq_true_eq] at h
      rw [Bool.and_eq_true, inB_iff, decide_eq_true_eq]
      omega
    · rw [if_neg (by assumption)] at h
      exact h
theorem tk_parts {n : Int} {ms : List Mv} (h : tkB n ms = true) : 1 ≤ n ∧ n ≤ 5 ∧ ms.length ≤ 12 ∧ ∀ t, t < ms.length → mvAt n ms t = true := by
  simp only [tkB, Bool.and_eq_true, decide_eq_true_eq, inB_iff, allTo_iff] at h
  exact ⟨h.1.1, h.1.2, h.2.1, h.2.2⟩
def evAt (ms : List Mv) (t : Nat) : Bool := decide (0 ≤ sgV (mGet ms t).1 (mGet ms t).2.1 (mGet ms t).2.2)
def aeV (n : Int) (ms : List Mv) : Bool := tkB n ms && allTo ms.length (evAt ms)
set_option maxHeartbeats 1000000 in
theorem spec_AreEven_any (n : Int) (v : Value) (ms : List Mv) (w : World) (h : ReadsM w v ms) (hw : wfM ms) :
    Calls Try.prog 56 #[.int .i64 n, v] w fun e w' => e = .returned (.tuple #[.bool (aeV n ms), .bool (tkB n ms)]) ∧ Below w.heap.size w w' := by
  have HRM := hid h
  have HW := hid hw
  obtain ⟨ao, c, rfl, hc1, hcm, h⟩ := h
  unfold maxLen at hcm
  cases ht : tkB n ms with
  | false =>
    have HT := hid ht
    have HV := hid (show aeV n ms = false by rw [aeV, ht]; rfl)
    clear ht h hw
    go_enter Try.func56, Try.ntmps56
    go_wp2_with (first | (go_at_call 87; refine (moTask_any n _ ms _ HRM.out HW.out).mono ?_; rintro e w1 ⟨rfl, hb1⟩; rw [HT.out]; have HB1 := hid hb1; clear hb1) | fail)
    go_ret2
    exact ⟨ret_bb4 HV.out.symm rfl, HB1.out⟩
  | true =>
    have HT := hid ht
    have HV := hid (show aeV n ms = allTo ms.length (evAt ms) by rw [aeV, ht]; rfl)
    have HTP := hid (tk_parts ht)
    rcases h with h | ⟨b, off, rfl, hb, hc⟩
    · subst h
      have HV2 := hid (show aeV n [] = true by rw [HV.out]; rfl)
      clear ht hw
      go_enter Try.func56, Try.ntmps56
      go_wp2_with (first | (go_at_call 87; refine (moTask_any n _ [] _ HRM.out HW.out).mono ?_; rintro e w1 ⟨rfl, hb1⟩; rw [HT.out]; have HB1 := hid hb1; clear hb1) | fail)
      refine wp_loop_rounds 1 ?_
      rw [rounds_succ]
      go_wp2_with fail
      go_ret2
      exact ⟨ret_bb4 HV2.out.symm rfl, HB1.out⟩
    · have HC := hid hc
      clear hc hw ht
      go_enter Try.func56, Try.ntmps56
      go_wp2_with (first | (go_at_call 87; refine (moTask_any n _ ms _ HRM.out HW.out).mono ?_; rintro e w1 ⟨rfl, hb1⟩; rw [HT.out]; have HB1 := hid hb1; clear hb1) | fail)
      go_loopw [14] (fun i wr => ∃ t : Nat, t ≤ ms.length ∧ i = .int .i64 t ∧ allTo t (evAt ms) = true ∧ Below w.heap.size w wr) (fun i _ => ms.length - (intOf i).toNat)
      case atStart => exact ⟨0, Nat.zero_le _, rfl, rfl, HB1.out⟩
      case round =>
        obtain ⟨t, ht, rfl, hall, hbel⟩ := hrel
        have HA := hid hall
        have HB := hid hbel
        clear hall
        by_cases hlt : t < ms.length
        · obtain ⟨h0, h1, h2⟩ := HC.out t hlt
          have hc0 := (hbel.cell (p := ⟨b, off + t * 3, none⟩) (by exact hb)).trans h0
          have hc1' := (hbel.cell (p := ⟨b, off + t * 3 + 1, none⟩) (by exact hb)).trans h1
          have hc2 := (hbel.cell (p := ⟨b, off + t * 3 + 2, none⟩) (by exact hb)).trans h2
          have hmt := HTP.out.2.2.2 t hlt
          rw [mvAt, mGet_at hlt] at hmt
          have HK := hid (show evAt ms t = decide (0 ≤ sgV ms[t].1 ms[t].2.1 ms[t].2.2) by rw [evAt, mGet_at hlt])
          obtain ⟨m, hm⟩ : ∃ m, m = ms[t] := ⟨_, rfl⟩
          rw [← hm] at hc0 hc1' hc2 HK hmt
          obtain ⟨k, i, j⟩ := m
          simp only at hc0 hc1' hc2 HK hmt
          have HM := hid (mvB_mono hmt (show n ≤ 12 by have := HTP.out.2.1; omega))
          obtain ⟨s, hs⟩ : ∃ s, s = sgV k i j := ⟨_, rfl⟩
          have HS := hid hs
          rw [← hs] at HK
          clear h0 h1 h2 hbel hm hs hmt
          by_cases hneg : s < 0
          · have HKF := hid (show evAt ms t = false by rw [HK.out]; simp; omega)
            go_wp2_with (first | (go_at_call 81; refine (moSign_any k i j _ HM.out).mono ?_; rintro e w2 ⟨rfl, hb2⟩; rw [← HS.out]; have HB2 := hid (Below_chain (HB.out.alloc HB.out.size (mvObj k i j)) hb2); clear hb2) | fail)
            go_ret2
            exact ⟨ret_bb4 (by rw [HV.out, allTo_no hlt HKF.out]) rfl, HB2.out⟩
          · have HKT := hid (show evAt ms t = true by rw [HK.out]; simp; omega)
            go_wp2_with (first | (go_at_call 81; refine (moSign_any k i j _ HM.out).mono ?_; rintro e w2 ⟨rfl, hb2⟩; rw [← HS.out]; have HB2 := hid (Below_chain (HB.out.alloc HB.out.size (mvObj k i j)) hb2); clear hb2) | fail)
            go_roundw
            case rel => exact ⟨t + 1, by omega, by go_num, allTo_next HA.out HKT.out, HB2.out⟩
            case measure => simp [intOf]; omega
        · obtain rfl : t = ms.length := by omega
          clear hbel
          go_wp2_with fail
          go_ret2
          exact ⟨ret_bb4 (by rw [HV.out, HA.out]) rfl, HB.out⟩
def plAt (n : Int) (L : List (List Int)) (t : Nat) : Bool := decide (((L.getD t []).length : Int) = n) && permB (L.getD t [])
/-- at most 1100 permutations of n -/
def plB (n : Int) (L : List (List Int)) : Bool := allTo L.length (plAt n L) && decide (L.length ≤ 1100)
theorem getDM {L : List (List Int)} {i : Nat} (h : i < L.length) : L.getD i [] = L[i] := by simp [List.getD_eq_getElem?_getD, h]
set_option maxHeartbeats 1000000 in
theorem moLists_any (n : Int) (v : Value) (L : List (List Int)) (base : Nat) (w : World) (h : Lists w base v L) :
    Calls Try.prog 88 #[.int .i64 n, v] w fun e w' => e = .returned (.bool (plB n L)) ∧ w = w' := by
  rcases h.form with ⟨rfl, rfl⟩ | ⟨g, cap, rfl, _, hg, hc1, hm, hc⟩
  · go_enter Try.func88, Try.ntmps88
    go_wp2_with fail
    refine wp_loop_rounds 1 ?_
    rw [rounds_succ]
    go_wp2_with fail
    go_returns
    exact ⟨rfl, rfl⟩
  · have HC := hid hc
    clear hc h
    go_enter Try.func88, Try.ntmps88
    go_wp2_with fail
    go_loop [9] (fun i => ∃ k : Nat, k ≤ L.length ∧ i = .int .i64 k ∧ allTo k (plAt n L) = true) (fun i => L.length - (intOf i).toNat)
    case atStart => exact ⟨0, Nat.zero_le _, rfl, rfl⟩
    case round =>
      obtain ⟨k, hk, rfl, hall⟩ := hrel
      have HA := hid hall
      clear hall
      by_cases hlt : k < L.length
      · obtain ⟨z, hz, hown⟩ := HC.out k hlt
        have HZ := hid hown.reads
        obtain ⟨l, hl⟩ : ∃ l, l = L[k] := ⟨_, rfl⟩
        have HK := hid (show plAt n L k = (decide ((l.length : Int) = n) && permB l) by rw [plAt, getDM hlt, hl])
        have hcx : w.cell? ⟨g, k, none⟩ = some z := hz
        rw [← hl] at HZ
        obtain ⟨ao, cz, hze⟩ : ∃ ao cz, z = .slice ao l.length cz := by
          obtain ⟨ao, cz, e, _⟩ := HZ.out
          exact ⟨ao, cz, e⟩
        subst hze
        clear hz hown hl
        by_cases hln : (l.length : Int) = n
        · have hb1 : ((l.length : Int) != n) = false := by simp [hln]
          have HLN := hid hln
          clear hln
          cases hp : permB l with
          | true =>
            have HP := hid hp
            have HT := hid (show plAt n L k = true by rw [HK.out, hp, decide_eq_true HLN.out]; rfl)
            clear hp
            go_wp2_with (first | (go_at_call 70; refine (raPermutation_any _ l _ HZ.out).mono ?_; rintro e w' ⟨rfl, rfl⟩; rw [HP.out]) | fail)
            go_round
            case rel => exact ⟨k + 1, by omega, by go_num, allTo_next HA.out HT.out⟩
            case measure => simp [intOf]; omega
          | false =>
            have HP := hid hp
            have HT := hid (show plAt n L k = false by rw [HK.out, hp, Bool.and_false])
            clear hp
            go_wp2_with (first | (go_at_call 70; refine (raPermutation_any _ l _ HZ.out).mono ?_; rintro e w' ⟨rfl, rfl⟩; rw [HP.out]) | fail)
            go_returns
            exact ⟨ret_bool (by rw [plB, allTo_no hlt HT.out]; rfl), rfl⟩
        · have hb1 : ((l.length : Int) != n) = true := by simp [hln]
          have HT := hid (show plAt n L k = false by rw [HK.out, decide_eq_false hln]; rfl)
          clear hln
          go_wp2_with fail
          go_returns
          exact ⟨ret_bool (by rw [plB, allTo_no hlt HT.out]; rfl), rfl⟩
      · obtain rfl : k = L.length := by omega
        go_wp2_with fail
        go_returns
        exact ⟨ret_bool (by rw [plB, HA.out, Bool.true_and, Bool.eq_iff_iff, decide_eq_true_eq, decide_eq_true_eq]; omega), rfl⟩
end Go.Proofs.Yteenmndgejeihaa
