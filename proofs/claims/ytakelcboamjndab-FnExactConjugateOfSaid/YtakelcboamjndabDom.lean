/- Contracts: numberAt and both DominatesParted. Conditions: slices that are not nil and read as lists of at most 2^20 numbers. -/
import Derived.Test.YtakelcboamjndabPt3
namespace Go.Proofs.Ytakelcboamjndab
open Go.RowKit Go.Maps
set_option linter.unusedVariables false
set_option maxRecDepth 4000

def pS (xs : List Int) (j : Nat) : Int := sumI (xs.take j)
theorem pS_succ (xs : List Int) (k : Nat) : pS xs (k + 1) = pS xs k + xs.getD k 0 := by
  unfold pS
  by_cases h : k < xs.length
  · rw [List.take_succ_eq_append_getElem h, sumI_snoc, getD_at h]
  · rw [List.take_of_length_le (show xs.length ≤ k + 1 by omega), List.take_of_length_le (show xs.length ≤ k by omega), List.getD_eq_getElem?_getD, List.getElem?_eq_none (by omega)]
    simp
theorem pS_all {xs : List Int} {k : Nat} (h : xs.length ≤ k) : pS xs k = sumI xs := by unfold pS; rw [List.take_of_length_le h]
theorem pS_min (xs : List Int) (k : Nat) : pS xs (min k xs.length) = pS xs k := by
  rcases Nat.le_total k xs.length with h | h
  · rw [Nat.min_eq_left h]
  · rw [Nat.min_eq_right h, pS_all (Nat.le_refl _), pS_all h]
/-- each beginning of xs has at least the sum of that of ys -/
def dmAt (xs ys : List Int) (k : Nat) : Bool := decide (pS ys (k + 1) ≤ pS xs (k + 1))
def dmB (xs ys : List Int) : Bool := decide (sumI xs = sumI ys) && allTo ys.length (dmAt xs ys)
theorem pS_mono {xs : List Int} (h : ∀ i, i < xs.length → 1 ≤ xs.getD i 0) {i : Nat} : ∀ j, i ≤ j → pS xs i ≤ pS xs j := by
  intro j hj
  induction j with
  | zero => obtain rfl : i = 0 := by omega
            exact Int.le_refl _
  | succ j ih =>
    by_cases e : i = j + 1
    · subst e; exact Int.le_refl _
    · have h1 := ih (by omega)
      rw [pS_succ]
      by_cases hl : j < xs.length
      · have := h j hl; omega
      · rw [List.getD_eq_getElem?_getD, List.getElem?_eq_none (by omega)]; simpa using h1
theorem dm_code {xs ys : List Int} (h : ∀ i, i < xs.length → 1 ≤ xs.getD i 0) {m : Nat} (hx : xs.length ≤ m) (hy : ys.length ≤ m) (hall : allTo m (dmAt xs ys) = true) : decide (sumI xs - sumI ys = 0) = dmB xs ys := by
  unfold dmB
  rw [Bool.eq_iff_iff, Bool.and_eq_true, decide_eq_true_eq, decide_eq_true_eq]
  constructor
  · intro e
    exact ⟨by omega, (allTo_iff _ _).2 (fun i hi => (allTo_iff _ _).1 hall i (by omega))⟩
  · rintro ⟨e, _⟩; omega
theorem dm_no {xs ys : List Int} (h : ∀ i, i < xs.length → 1 ≤ xs.getD i 0) (hl : ys.length ≤ 20) {k : Nat} (hk : dmAt xs ys k = false) : dmB xs ys = false := by
  cases hd : dmB xs ys
  · rfl
  · exfalso
    unfold dmB at hd
    rw [Bool.and_eq_true, decide_eq_true_eq, allTo_iff] at hd
    obtain ⟨e, ha⟩ := hd
    unfold dmAt at hk ha
    have hk' : ¬ pS ys (k + 1) ≤ pS xs (k + 1) := by simpa using hk
    by_cases hlt : k < ys.length
    · have := ha k hlt
      exact hk' (by simpa using this)
    · rw [pS_all (xs := ys) (by omega)] at hk'
      by_cases h0 : ys.length = 0
      · have hys : ys = [] := List.eq_nil_of_length_eq_zero h0
        subst hys
        have h1 := pS_mono h (i := 0) (k + 1) (by omega)
        have h2 : pS xs 0 = 0 := by simp [pS, sumI]
        have h3 : sumI ([] : List Int) = 0 := rfl
        omega
      · have h1 := ha (ys.length - 1) (by omega)
        rw [show ys.length - 1 + 1 = ys.length by omega, pS_all (Nat.le_refl _)] at h1
        have h1' : sumI ys ≤ pS xs ys.length := by simpa using h1
        have h2 := pS_mono h (i := ys.length) (k + 1) (by omega)
        omega
theorem ptB_pos {xs : List Int} (h : ptB xs = true) : xs.length ≤ 20 ∧ ∀ i, i < xs.length → 1 ≤ xs.getD i 0 ∧ xs.getD i 0 ≤ 20 := by
  obtain ⟨t, h1, h2, h3, h4, h5⟩ := ptB_parts h
  exact ⟨h4, fun i hi => ⟨(ptOk_all xs _ _ h3 i hi).1, by have := (ptOk_all xs _ _ h3 i hi).2.1; omega⟩⟩
theorem pS_range {xs : List Int} (h : ptB xs = true) (k : Nat) : 0 ≤ pS xs k ∧ pS xs k ≤ 1000000 := by
  obtain ⟨h1, h2⟩ := ptB_pos h
  rw [← pS_min]
  exact sumI_parts h1 h2 _ (Nat.min_le_right _ _)
def doB (xs ys : List Int) : Bool := ptB xs && ptB ys
def dpB (xs ys : List Int) : Bool := doB xs ys && dmB xs ys
theorem ret_bb6 {b b' c c' : Bool} (h : b = b') (h2 : c = c') : Ending.returned (.tuple #[.bool b, .bool c]) = .returned (.tuple #[.bool b', .bool c']) := by rw [h, h2]
theorem numberAt_any (v : Value) (xs : List Int) (k : Nat) (w : World) (h : Sits w v xs) (hl : xs.length ≤ 1048576) :
    Calls Try.prog 77 #[v, .int .i64 (k : Int)] w fun e w' => e = .returned (.int .i64 (xs.getD k 0)) ∧ w = w' := by
  obtain ⟨b, off, c, rfl, hc1, hm, hb, hc⟩ := h
  by_cases hlt : k < xs.length
  · have hcx := hc k hlt
    have HF := hid (getD_at hlt)
    have q1 : (0 : Int) ≤ (k : Int) := by omega
    have q2 : (k : Int) < (xs.length : Int) := by omega
    have q3 : ¬ ((xs.length : Int) ≤ (k : Int)) := by omega
    rw [HF.out]
    clear hc
    go_enter Try.func77, Try.ntmps77
    go_wp2_with fail
    go_ret
    exact ⟨rfl, rfl⟩
  · have q3 : (xs.length : Int) ≤ (k : Int) := by omega
    have HF := hid (show xs.getD k 0 = 0 by rw [List.getD_eq_getElem?_getD, List.getElem?_eq_none (by omega)]; rfl)
    rw [HF.out]
    clear hc
    go_enter Try.func77, Try.ntmps77
    go_wp2_with fail
    go_ret
    exact ⟨rfl, rfl⟩
theorem impl_DominatesParted_any (v : Value) (xs : List Int) (u : Value) (ys : List Int) (w : World) (h : Sits w v xs) (hl : xs.length ≤ 1048576) (h' : Sits w u ys) (hl' : ys.length ≤ 1048576) :
    Calls Try.prog 45 #[v, u] w fun e w' => e = .returned (.tuple #[.bool (dpB xs ys), .bool (doB xs ys)]) ∧ Below w.heap.size w w' := by
  have HX := hid h
  have HY := hid h'
  cases hg : ptB xs
  · have HF := hid (show dpB xs ys = false ∧ doB xs ys = false by unfold dpB doB; rw [hg]; simp)
    clear h h'
    go_enter Try.func45, Try.ntmps45
    go_wp2_with (first | (go_at_call 30; refine (impl_IsParted_any _ xs _ HX.out.reads hl).mono ?_; rintro e w1 ⟨rfl, hb⟩; rw [hg]; have HB := hid hb; clear hb) | fail)
    go_ret2
    exact ⟨ret_bb6 HF.out.1.symm HF.out.2.symm, HB.out⟩
  · cases hg2 : ptB ys
    · have HF := hid (show dpB xs ys = false ∧ doB xs ys = false by unfold dpB doB; rw [hg, hg2]; simp)
      clear h h'
      go_enter Try.func45, Try.ntmps45
      go_wp2_with (first
        | (go_at_call 30; refine (impl_IsParted_any _ ys _ HY1.out.reads hl').mono ?_; rintro e w2 ⟨rfl, hb⟩; rw [hg2]; have HB2 := hid (Below_chain HB.out hb); clear hb)
        | (go_at_call 30; refine (impl_IsParted_any _ xs _ HX.out.reads hl).mono ?_; rintro e w1 ⟨rfl, hb⟩; rw [hg]; have HB := hid hb; have HY1 := hid (HY.out.below hb); clear hb)
        | fail)
      go_ret2
      exact ⟨ret_bb6 HF.out.1.symm HF.out.2.symm, HB2.out⟩
    · have HF := hid (show dpB xs ys = dmB xs ys ∧ doB xs ys = true by unfold dpB doB; rw [hg, hg2]; simp)
      have HPX := hid (pS_range hg)
      have HPY := hid (pS_range hg2)
      have HQX := hid (ptB_pos hg)
      have HQY := hid (ptB_pos hg2)
      obtain ⟨m, hmx⟩ : ∃ m, m = max xs.length ys.length := ⟨_, rfl⟩
      have hmx1 : xs.length ≤ m := by omega
      have hmx2 : ys.length ≤ m := by omega
      have hm20 : m ≤ 20 := by have := HQX.out.1; have := HQY.out.1; omega
      have hmI : ((max xs.length ys.length : Nat) : Int) = (m : Int) := by omega
      obtain ⟨b, off, c, rfl, hc1, hm, hb, hc⟩ := h
      obtain ⟨b', off', c', rfl, hc1', hm', hb', hc'⟩ := h'
      clear hc hc' hmx
      have hcase : (xs.length : Int) < (ys.length : Int) ∧ m = ys.length ∨ ¬ (xs.length : Int) < (ys.length : Int) ∧ m = xs.length := by omega
      have HMX := hid (show xs.length ≤ m from hmx1)
      have HMY := hid (show ys.length ≤ m from hmx2)
      clear hmx1 hmx2 hmI
      rcases hcase with ⟨hlt, hme⟩ | ⟨hlt, hme⟩
      · go_enter Try.func45, Try.ntmps45
        go_wp2_with (first
          | (go_at_call 30; refine (impl_IsParted_any _ ys _ HY1.out.reads hl').mono ?_; rintro e w2 ⟨rfl, hb⟩; rw [hg2]; have HB2 := hid (Below_chain HB.out hb); clear hb)
          | (go_at_call 30; refine (impl_IsParted_any _ xs _ HX.out.reads hl).mono ?_; rintro e w1 ⟨rfl, hb⟩; rw [hg]; have HB := hid hb; have HY1 := hid (HY.out.below hb); clear hb)
          | fail)
        clear hg hg2
        subst hme
        go_loopw [6, 21] (fun r i wr => ∃ k : Nat, k ≤ ys.length ∧ i = .int .i64 k ∧ r = .int .i64 (pS xs k - pS ys k) ∧ allTo k (dmAt xs ys) = true ∧ Below w.heap.size w wr) (fun _ i _ => ys.length - (intOf i).toNat)
        case atStart => exact ⟨0, Nat.zero_le _, rfl, by first | rfl | simp [pS, sumI], rfl, HB2.out⟩
        case round =>
          obtain ⟨k, hk, rfl, rfl, hall, hbel⟩ := hrel
          have HALL := hid hall
          have HBW := hid hbel
          have HX3 := hid (HX.out.below hbel)
          have HY3 := hid (HY.out.below hbel)
          have r1 := HPX.out k
          have r2 := HPY.out k
          have r3 := HPX.out (k + 1)
          have r4 := HPY.out (k + 1)
          have HD := hid (show pS xs (k + 1) = pS xs k + xs.getD k 0 from pS_succ _ _)
          have HD2 := hid (show pS ys (k + 1) = pS ys k + ys.getD k 0 from pS_succ _ _)
          have hda : dmAt xs ys k = decide (pS ys (k + 1) ≤ pS xs (k + 1)) := rfl
          clear hall hbel
          by_cases hlt2 : k < ys.length
          · rw [HD.out, HD2.out] at hda
            rw [HD.out] at r3
            rw [HD2.out] at r4
            obtain ⟨x, hx⟩ : ∃ x, x = xs.getD k 0 := ⟨_, rfl⟩
            obtain ⟨y, hy⟩ : ∃ y, y = ys.getD k 0 := ⟨_, rfl⟩
            obtain ⟨p, hp⟩ : ∃ p, p = pS xs k := ⟨_, rfl⟩
            obtain ⟨q, hq⟩ : ∃ q, q = pS ys k := ⟨_, rfl⟩
            have HNX := hid ((numberAt_any _ xs k wr HX3.out hl).mono fun e w' hh => (⟨by rw [hh.1, ← hx], hh.2⟩ : e = .returned (.int .i64 x) ∧ wr = w'))
            have HNY := hid ((numberAt_any _ ys k wr HY3.out hl').mono fun e w' hh => (⟨by rw [hh.1, ← hy], hh.2⟩ : e = .returned (.int .i64 y) ∧ wr = w'))
            rw [← hx] at hda r3 HD
            rw [← hy] at hda r4 HD2
            rw [← hp] at hda r1 r3 HD
            rw [← hq] at hda r2 r4 HD2
            rw [← hp, ← hq]
            have HDA := hid hda
            have u1 : IntKind.i64.wrap (x - y) = x - y := IntWalk.i64_in _ (by omega)
            have u2 : IntKind.i64.wrap (p - q + (x - y)) = p - q + (x - y) := IntWalk.i64_in _ (by omega)
            have q1 : (k : Int) < (ys.length : Int) := by omega
            have HNP := hid (show p - q + (x - y) = pS xs (k + 1) - pS ys (k + 1) by rw [HD.out, HD2.out]; omega)
            clear hx hy hp hq hda
            by_cases hneg : p - q + (x - y) < 0
            · have HNO := hid (dm_no (fun i hi => (HQX.out.2 i hi).1) HQY.out.1 (k := k) (by rw [HDA.out]; simp; omega))
              go_wp2_with (first
                | (go_at_call 77; refine HNY2.out.mono ?_; rintro e w' ⟨rfl, rfl⟩)
                | (go_at_call 77; refine HNX.out.mono ?_; rintro e w' ⟨rfl, rfl⟩; have HNY2 := HNY)
                | fail)
              go_ret2
              exact ⟨ret_bb6 (HF.out.1.trans HNO.out).symm HF.out.2.symm, HBW.out⟩
            · have HAN := hid (show allTo (k + 1) (dmAt xs ys) = true by rw [allTo_succ, HALL.out, HDA.out]; simp; omega)
              go_wp2_with (first
                | (go_at_call 77; refine HNY2.out.mono ?_; rintro e w' ⟨rfl, rfl⟩)
                | (go_at_call 77; refine HNX.out.mono ?_; rintro e w' ⟨rfl, rfl⟩; have HNY2 := HNY)
                | fail)
              go_roundw
              case rel => exact ⟨k + 1, by omega, by go_num, by rw [← HNP.out], HAN.out, HBW.out⟩
              case measure => simp [intOf]; omega
          · obtain rfl : k = ys.length := by omega
            rw [pS_all HMX.out, pS_all HMY.out]
            have HRS := hid (dm_code (fun i hi => (HQX.out.2 i hi).1) HMX.out HMY.out HALL.out)
            have HFE := hid (show (sumI xs - sumI ys == 0) = dpB xs ys by rw [HF.out.1, ← HRS.out]; rfl)
            have q1 : ¬ ((ys.length : Int) < (ys.length : Int)) := by omega
            clear r1 r2 r3 r4 hda HD HD2
            go_wp2_with fail
            go_ret2
            exact ⟨ret_bb6 HFE.out HF.out.2.symm, HBW.out⟩
      · go_enter Try.func45, Try.ntmps45
        go_wp2_with (first
          | (go_at_call 30; refine (impl_IsParted_any _ ys _ HY1.out.reads hl').mono ?_; rintro e w2 ⟨rfl, hb⟩; rw [hg2]; have HB2 := hid (Below_chain HB.out hb); clear hb)
          | (go_at_call 30; refine (impl_IsParted_any _ xs _ HX.out.reads hl).mono ?_; rintro e w1 ⟨rfl, hb⟩; rw [hg]; have HB := hid hb; have HY1 := hid (HY.out.below hb); clear hb)
          | fail)
        clear hg hg2
        subst hme
        go_loopw [6, 21] (fun r i wr => ∃ k : Nat, k ≤ xs.length ∧ i = .int .i64 k ∧ r = .int .i64 (pS xs k - pS ys k) ∧ allTo k (dmAt xs ys) = true ∧ Below w.heap.size w wr) (fun _ i _ => xs.length - (intOf i).toNat)
        case atStart => exact ⟨0, Nat.zero_le _, rfl, by first | rfl | simp [pS, sumI], rfl, HB2.out⟩
        case round =>
          obtain ⟨k, hk, rfl, rfl, hall, hbel⟩ := hrel
          have HALL := hid hall
          have HBW := hid hbel
          have HX3 := hid (HX.out.below hbel)
          have HY3 := hid (HY.out.below hbel)
          have r1 := HPX.out k
          have r2 := HPY.out k
          have r3 := HPX.out (k + 1)
          have r4 := HPY.out (k + 1)
          have HD := hid (show pS xs (k + 1) = pS xs k + xs.getD k 0 from pS_succ _ _)
          have HD2 := hid (show pS ys (k + 1) = pS ys k + ys.getD k 0 from pS_succ _ _)
          have hda : dmAt xs ys k = decide (pS ys (k + 1) ≤ pS xs (k + 1)) := rfl
          clear hall hbel
          by_cases hlt2 : k < xs.length
          · rw [HD.out, HD2.out] at hda
            rw [HD.out] at r3
            rw [HD2.out] at r4
            obtain ⟨x, hx⟩ : ∃ x, x = xs.getD k 0 := ⟨_, rfl⟩
            obtain ⟨y, hy⟩ : ∃ y, y = ys.getD k 0 := ⟨_, rfl⟩
            obtain ⟨p, hp⟩ : ∃ p, p = pS xs k := ⟨_, rfl⟩
            obtain ⟨q, hq⟩ : ∃ q, q = pS ys k := ⟨_, rfl⟩
            have HNX := hid ((numberAt_any _ xs k wr HX3.out hl).mono fun e w' hh => (⟨by rw [hh.1, ← hx], hh.2⟩ : e = .returned (.int .i64 x) ∧ wr = w'))
            have HNY := hid ((numberAt_any _ ys k wr HY3.out hl').mono fun e w' hh => (⟨by rw [hh.1, ← hy], hh.2⟩ : e = .returned (.int .i64 y) ∧ wr = w'))
            rw [← hx] at hda r3 HD
            rw [← hy] at hda r4 HD2
            rw [← hp] at hda r1 r3 HD
            rw [← hq] at hda r2 r4 HD2
            rw [← hp, ← hq]
            have HDA := hid hda
            have u1 : IntKind.i64.wrap (x - y) = x - y := IntWalk.i64_in _ (by omega)
            have u2 : IntKind.i64.wrap (p - q + (x - y)) = p - q + (x - y) := IntWalk.i64_in _ (by omega)
            have q1 : (k : Int) < (xs.length : Int) := by omega
            have HNP := hid (show p - q + (x - y) = pS xs (k + 1) - pS ys (k + 1) by rw [HD.out, HD2.out]; omega)
            clear hx hy hp hq hda
            by_cases hneg : p - q + (x - y) < 0
            · have HNO := hid (dm_no (fun i hi => (HQX.out.2 i hi).1) HQY.out.1 (k := k) (by rw [HDA.out]; simp; omega))
              go_wp2_with (first
                | (go_at_call 77; refine HNY2.out.mono ?_; rintro e w' ⟨rfl, rfl⟩)
                | (go_at_call 77; refine HNX.out.mono ?_; rintro e w' ⟨rfl, rfl⟩; have HNY2 := HNY)
                | fail)
              go_ret2
              exact ⟨ret_bb6 (HF.out.1.trans HNO.out).symm HF.out.2.symm, HBW.out⟩
            · have HAN := hid (show allTo (k + 1) (dmAt xs ys) = true by rw [allTo_succ, HALL.out, HDA.out]; simp; omega)
              go_wp2_with (first
                | (go_at_call 77; refine HNY2.out.mono ?_; rintro e w' ⟨rfl, rfl⟩)
                | (go_at_call 77; refine HNX.out.mono ?_; rintro e w' ⟨rfl, rfl⟩; have HNY2 := HNY)
                | fail)
              go_roundw
              case rel => exact ⟨k + 1, by omega, by go_num, by rw [← HNP.out], HAN.out, HBW.out⟩
              case measure => simp [intOf]; omega
          · obtain rfl : k = xs.length := by omega
            rw [pS_all HMX.out, pS_all HMY.out]
            have HRS := hid (dm_code (fun i hi => (HQX.out.2 i hi).1) HMX.out HMY.out HALL.out)
            have HFE := hid (show (sumI xs - sumI ys == 0) = dpB xs ys by rw [HF.out.1, ← HRS.out]; rfl)
            have q1 : ¬ ((xs.length : Int) < (xs.length : Int)) := by omega
            clear r1 r2 r3 r4 hda HD HD2
            go_wp2_with fail
            go_ret2
            exact ⟨ret_bb6 HFE.out HF.out.2.symm, HBW.out⟩
set_option maxHeartbeats 1000000 in
theorem spec_DominatesParted_any (v : Value) (xs : List Int) (u : Value) (ys : List Int) (w : World) (h : Sits w v xs) (hl : xs.length ≤ 1048576) (h' : Sits w u ys) (hl' : ys.length ≤ 1048576) :
    Calls Try.prog 44 #[v, u] w fun e w' => e = .returned (.tuple #[.bool (dpB xs ys), .bool (doB xs ys)]) ∧ Below w.heap.size w w' := by
  have HX := hid h
  have HY := hid h'
  cases hg : ptB xs
  · have HF := hid (show dpB xs ys = false ∧ doB xs ys = false by unfold dpB doB; rw [hg]; simp)
    clear h h'
    go_enter Try.func44, Try.ntmps44
    go_wp2_with (first | (go_at_call 59; refine (spParted_any _ xs _ HX.out hl).mono ?_; rintro e w1 ⟨rfl, hb⟩; rw [hg]; have HB := hid hb; clear hb) | fail)
    go_ret2
    exact ⟨ret_bb6 HF.out.1.symm HF.out.2.symm, HB.out⟩
  · cases hg2 : ptB ys
    · have HF := hid (show dpB xs ys = false ∧ doB xs ys = false by unfold dpB doB; rw [hg, hg2]; simp)
      clear h h'
      go_enter Try.func44, Try.ntmps44
      go_wp2_with (first
        | (go_at_call 59; refine (spParted_any _ ys _ HY1.out hl').mono ?_; rintro e w2 ⟨rfl, hb⟩; rw [hg2]; have HB2 := hid (Below_chain HB.out hb); clear hb)
        | (go_at_call 59; refine (spParted_any _ xs _ HX.out hl).mono ?_; rintro e w1 ⟨rfl, hb⟩; rw [hg]; have HB := hid hb; have HY1 := hid (HY.out.below hb); clear hb)
        | fail)
      go_ret2
      exact ⟨ret_bb6 HF.out.1.symm HF.out.2.symm, HB2.out⟩
    · have HO := hid (show doB xs ys = true by unfold doB; rw [hg, hg2]; rfl)
      have HD := hid (show dpB xs ys = dmB xs ys by unfold dpB doB; rw [hg, hg2]; simp)
      have HPX := hid (pS_range hg)
      have HPY := hid (pS_range hg2)
      have HQX := hid (ptB_pos hg)
      have HQY := hid (ptB_pos hg2)
      have HSX := hid (sumI_parts HQX.out.1 HQX.out.2)
      have HSY := hid (sumI_parts HQY.out.1 HQY.out.2)
      have hly : ys.length ≤ 20 := HQY.out.1
      obtain ⟨b, off, c, rfl, hc1, hm, hb, hc⟩ := h
      obtain ⟨b', off', c', rfl, hc1', hm', hb', hc'⟩ := h'
      have HC := hid hc
      have HC' := hid hc'
      obtain ⟨X, hX⟩ : ∃ X, X = sumI xs := ⟨_, rfl⟩
      obtain ⟨Y, hY⟩ : ∃ Y, Y = sumI ys := ⟨_, rfl⟩
      have HXX := hid hX.symm
      have HYY := hid hY.symm
      clear hc hc' hX hY
      by_cases hXY : X = Y
      case neg =>
        have HF := hid (show dmB xs ys = false by unfold dmB; rw [HXX.out, HYY.out, decide_eq_false hXY]; rfl)
        have hne : (X == Y) = false := by simpa using hXY
        go_enter Try.func44, Try.ntmps44
        go_wp2_with (first
          | (go_at_call 59; refine (spParted_any _ ys _ HY1.out hl').mono ?_; rintro e w2 ⟨rfl, hb⟩; rw [hg2]; have HB2 := hid (Below_chain HB.out hb); have HX2 := hid (HX.out.below HB2.out); have HY2 := hid (HY.out.below HB2.out); clear hb)
          | (go_at_call 59; refine (spParted_any _ xs _ HX.out hl).mono ?_; rintro e w1 ⟨rfl, hb⟩; rw [hg]; have HB := hid hb; have HY1 := hid (HY.out.below hb); clear hb)
          | (go_at_call 69; refine (spSum_any _ ys _ HY3.out.reads HSY.out).mono ?_; rintro e w' ⟨rfl, rfl⟩; rw [HYY.out])
          | (go_at_call 69; refine (spSum_any _ xs _ HX2.out.reads HSX.out).mono ?_; rintro e w' ⟨rfl, rfl⟩; rw [HXX.out]; have HY3 := HY2)
          | fail)
        go_ret2
        exact ⟨ret_bb6 (HD.out.trans HF.out).symm HO.out.symm, HB2.out⟩
      case pos =>
        subst hXY
        have HEQ := hid (show decide (sumI xs = sumI ys) = true by rw [HXX.out, HYY.out]; simp)
        go_enter Try.func44, Try.ntmps44
        go_wp2_with (first
          | (go_at_call 59; refine (spParted_any _ ys _ HY1.out hl').mono ?_; rintro e w2 ⟨rfl, hb⟩; rw [hg2]; have HB2 := hid (Below_chain HB.out hb); have HX2 := hid (HX.out.below HB2.out); have HY2 := hid (HY.out.below HB2.out); clear hb)
          | (go_at_call 59; refine (spParted_any _ xs _ HX.out hl).mono ?_; rintro e w1 ⟨rfl, hb⟩; rw [hg]; have HB := hid hb; have HY1 := hid (HY.out.below hb); clear hb)
          | (go_at_call 69; refine (spSum_any _ ys _ HY3.out.reads HSY.out).mono ?_; rintro e w' ⟨rfl, rfl⟩; rw [HYY.out])
          | (go_at_call 69; refine (spSum_any _ xs _ HX2.out.reads HSX.out).mono ?_; rintro e w' ⟨rfl, rfl⟩; rw [HXX.out]; have HY3 := HY2)
          | fail)
        clear hg hg2
        go_loopw [22] (fun i wr => ∃ k : Nat, k ≤ ys.length ∧ i = .int .i64 k ∧ allTo k (dmAt xs ys) = true ∧ Below w.heap.size w wr) (fun i _ => ys.length - (intOf i).toNat)
        case atStart => exact ⟨0, Nat.zero_le _, rfl, rfl, HB2.out⟩
        case round =>
          obtain ⟨k, hk, rfl, hall, hbel⟩ := hrel
          have HALL := hid hall
          have HBW := hid hbel
          by_cases hlt2 : k < ys.length
          · have r1 := HPX.out (k + 1)
            have r2 := HPY.out (k + 1)
            have hda : dmAt xs ys k = decide (pS ys (k + 1) ≤ pS xs (k + 1)) := rfl
            obtain ⟨k1, hk1⟩ : ∃ k1, k1 = k + 1 := ⟨_, rfl⟩
            rw [← hk1] at r1 r2 hda
            obtain ⟨mx, hmx⟩ : ∃ mx, mx = min k1 xs.length := ⟨_, rfl⟩
            have hmx1 : mx ≤ xs.length := by omega
            have HRX := hid ((Sits_take (xs := xs) mx hmx1 hc1 hm (Nat.lt_of_lt_of_le hb hbel.size) (fun i hi => (hbel.cell (p := ⟨b, off + i, none⟩) (by exact hb)).trans (HC.out i hi))).reads)
            have HRY := hid ((Sits_take (xs := ys) k1 (by omega) hc1' hm' (Nat.lt_of_lt_of_le hb' hbel.size) (fun i hi => (hbel.cell (p := ⟨b', off' + i, none⟩) (by exact hb')).trans (HC'.out i hi))).reads)
            have HMN := hid (show min (k1 : Int) (xs.length : Int) = (mx : Int) by omega)
            have HTX := hid (show sumI (xs.take mx) = pS xs k1 by rw [hmx]; exact pS_min xs k1)
            have HTY := hid (show sumI (ys.take k1) = pS ys k1 from rfl)
            have HAX := hid (show ∀ j, j ≤ (xs.take mx).length → 0 ≤ sumI ((xs.take mx).take j) ∧ sumI ((xs.take mx).take j) ≤ 1000000 from fun j hj => by
              rw [List.take_take]; exact HSX.out _ (by omega))
            have HAY := hid (show ∀ j, j ≤ (ys.take k1).length → 0 ≤ sumI ((ys.take k1).take j) ∧ sumI ((ys.take k1).take j) ≤ 1000000 from fun j hj => by
              rw [List.take_take]; exact HSY.out _ (by omega))
            obtain ⟨p, hp⟩ : ∃ p, p = pS xs k1 := ⟨_, rfl⟩
            obtain ⟨q, hq⟩ : ∃ q, q = pS ys k1 := ⟨_, rfl⟩
            rw [← hp] at HTX hda r1
            rw [← hq] at HTY hda r2
            have HDA := hid hda
            have HLQ := hid (fun W => (l1Least_any (k1 : Int) (xs.length : Int) W).mono fun e w' hh => (⟨by rw [hh.1, HMN.out], hh.2.symm⟩ : e = .returned (.int .i64 (mx : Int)) ∧ w' = W))
            have HXQ := hid (fun W V (hV : V = .slice (some ⟨b, off, none⟩) mx c) (hW : Reads W (.slice (some ⟨b, off, none⟩) mx c) (xs.take mx)) => (spSum_any V _ W (by rw [hV]; exact hW) HAX.out).mono fun e w' hh => (⟨by rw [hh.1, HTX.out], hh.2.symm⟩ : e = .returned (.int .i64 p) ∧ w' = W))
            have HYQ := hid (fun W V (hV : V = .slice (some ⟨b', off', none⟩) k1 c') (hW : Reads W (.slice (some ⟨b', off', none⟩) k1 c') (ys.take k1)) => (spSum_any V _ W (by rw [hV]; exact hW) HAY.out).mono fun e w' hh => (⟨by rw [hh.1, HTY.out], hh.2.symm⟩ : e = .returned (.int .i64 q) ∧ w' = W))
            have q1 : (k : Int) < (ys.length : Int) := by omega
            have u1 : IntKind.i64.wrap ((k : Int) + 1) = (k1 : Int) := by rw [IntWalk.i64_in _ (by omega)]; omega
            have u2 : (k : Int) + 1 = (k1 : Int) := by omega
            have q2 : (0 : Int) ≤ (mx : Int) := by omega
            have q5 : k1 ≤ 20 := by omega
            have u3 : IntKind.i64.wrap (k1 : Int) = (k1 : Int) := IntWalk.i64_in _ (by omega)
            have q3 : (mx : Int) ≤ (c : Int) := by omega
            have q4 : (k1 : Int) ≤ (c' : Int) := by omega
            clear hp hq hda hall hbel hmx hk1
            have HN1 := hid (fun (hh : ¬ p < q) => (show allTo (k + 1) (dmAt xs ys) = true by rw [allTo_succ, HALL.out, HDA.out]; simp; omega))
            have HN2 := hid (fun (hh : p < q) => (show dmB xs ys = false by unfold dmB; rw [allTo_no hlt2 (by rw [HDA.out]; simp; omega)]; simp))
            by_cases hpq : p < q
            · have HNO := hid (HN2.out hpq)
              go_wp2_with fail
              go_quiet (first
                | (go_at_call 70; exact Calls.quiet_of_same (HLQ.out _))
                | (go_at_call 69; first | (refine Calls.quiet_of_same (HXQ.out _ _ (by with_reducible rfl) ?_); exact HRX.out) | (refine Calls.quiet_of_same (HYQ.out _ _ (by with_reducible rfl) ?_); exact HRY.out))
                | fail)
              go_wp2_with fail
              go_ret2
              exact ⟨ret_bb6 (HD.out.trans HNO.out).symm HO.out.symm, below_drewN HBW.out _⟩
            · have HNO := hid (HN1.out hpq)
              go_wp2_with fail
              go_quiet (first
                | (go_at_call 70; exact Calls.quiet_of_same (HLQ.out _))
                | (go_at_call 69; first | (refine Calls.quiet_of_same (HXQ.out _ _ (by with_reducible rfl) ?_); exact HRX.out) | (refine Calls.quiet_of_same (HYQ.out _ _ (by with_reducible rfl) ?_); exact HRY.out))
                | fail)
              go_wp2_with fail
              go_roundw
              case rel => exact ⟨k + 1, by omega, by go_num, HNO.out, below_drewN HBW.out _⟩
              case measure => simp [intOf]; omega
          · obtain rfl : k = ys.length := by omega
            have HNO := hid (show dmB xs ys = true by unfold dmB; rw [HEQ.out, HALL.out]; rfl)
            clear hall hbel
            go_wp2_with fail
            go_ret2
            exact ⟨ret_bb6 (HD.out.trans HNO.out).symm HO.out.symm, HBW.out⟩
theorem impl_DominatesParted_c (v : Value) (xs : List Int) (u : Value) (ys : List Int) (w : World) (h : Sits w v xs) (hl : xs.length ≤ 1048576) (_hwf : ∀ x ∈ xs, (Lit.int .i64 x).wf = true) (h' : Sits w u ys) (hl' : ys.length ≤ 1048576) (_hwf' : ∀ x ∈ ys, (Lit.int .i64 x).wf = true) :
    Calls Try.prog 45 #[v, u] w fun e w' => e = .returned (.tuple #[.bool (dpB xs ys), .bool (doB xs ys)]) ∧ Below w.heap.size w w' := impl_DominatesParted_any v xs u ys w h hl h' hl'
theorem spec_DominatesParted_c (v : Value) (xs : List Int) (u : Value) (ys : List Int) (w : World) (h : Sits w v xs) (hl : xs.length ≤ 1048576) (_hwf : ∀ x ∈ xs, (Lit.int .i64 x).wf = true) (h' : Sits w u ys) (hl' : ys.length ≤ 1048576) (_hwf' : ∀ x ∈ ys, (Lit.int .i64 x).wf = true) :
    Calls Try.prog 44 #[v, u] w fun e w' => e = .returned (.tuple #[.bool (dpB xs ys), .bool (doB xs ys)]) ∧ Below w.heap.size w w' := spec_DominatesParted_any v xs u ys w h hl h' hl'
end Go.Proofs.Ytakelcboamjndab
