/- Contracts: both RankParted and PartedWith. Conditions: slices that are not nil and read as lists of at most 2^20 numbers; ints in their range. -/
import Derived.Test.YtakelcboamjndabPt2
import Derived.Test.YtakelcboamjndabGr1
namespace Go.Proofs.Ytakelcboamjndab
open Go.RowKit Go.Maps
set_option linter.unusedVariables false
set_option maxRecDepth 4000

def rpRes (xs : List Int) : Int := if ptB xs = true then (rkS ptCh ptNl ptNb ptK xs (sumI xs).toNat (sumI xs).toNat : Int) else 0
theorem ptB_parts {xs : List Int} (h : ptB xs = true) : ∃ t : Nat, sumI xs = (t : Int) ∧ t ≤ 20 ∧ ptOk xs t t = true ∧ xs.length ≤ 20 ∧ wsum 0 xs = (t : Int) := by
  unfold ptB at h
  rw [Bool.and_eq_true, decide_eq_true_eq] at h
  have hl := ptOk_low xs _ _ h.2
  obtain ⟨t, ht⟩ : ∃ t : Nat, sumI xs = (t : Int) := ⟨(sumI xs).toNat, by omega⟩
  rw [ht] at h hl
  have := wsum_ok xs _ _ 0 h.2 (Int.le_refl _) (by omega)
  exact ⟨t, ht, by omega, h.2, by omega, by omega⟩
theorem impl_RankParted_any (v : Value) (xs : List Int) (w : World) (h : Sits w v xs) (hl : xs.length ≤ 1048576) (_hwf : ∀ x ∈ xs, (Lit.int .i64 x).wf = true) :
    Calls Try.prog 39 #[v] w fun e w' => e = .returned (.tuple #[.int .i64 (rpRes xs), .bool (ptB xs)]) ∧ Below w.heap.size w w' := by
  have HR := hid h.reads
  clear h
  cases hg : ptB xs
  · have HF := hid (show rpRes xs = 0 by unfold rpRes; rw [hg]; simp)
    go_enter Try.func39, Try.ntmps39
    go_wp2_with (first | (go_at_call 30; refine (impl_IsParted_any _ xs _ HR.out hl).mono ?_; rintro e w1 ⟨rfl, hb⟩; rw [hg]; have HB := hid hb; clear hb) | fail)
    go_ret2
    exact ⟨ret_nb6 HF.out.symm rfl, HB.out⟩
  · obtain ⟨t, h1, h2, h3, h4, h5⟩ := ptB_parts hg
    have HF := hid (show (rkS ptCh ptNl ptNb ptK xs t t : Int) = rpRes xs by unfold rpRes; rw [if_pos hg, h1]; rfl)
    have HDD := hid (show ptD t t by unfold ptD; omega)
    have HH := hid (show hasS ptCh ptNl ptNb xs t t = true by rw [has_pt]; exact h3)
    have HS := hid h5
    clear h1 h3 h5
    go_enter Try.func39, Try.ntmps39
    go_wp2_with (first
      | (go_at_call 30; refine (impl_IsParted_any _ xs _ HR.out hl).mono ?_; rintro e w1 ⟨rfl, hb⟩; rw [hg]; have HB := hid hb; have HR1 := hid (HR.out.below hb); clear hb)
      | (go_at_call 60; refine (sumOfW_any _ xs _ HR1.out hl).mono ?_; rintro e w' ⟨rfl, rfl⟩; rw [HS.out])
      | (go_at_call 62; refine (partedNumbersOf_any t t _).mono ?_; rintro e w2 ⟨rfl, he, hm2, hb2⟩; have HE2 := hid he; have HM2 := hid hm2; have HB2 := hid (Below_chain HB.out hb2); have HR2 := hid (HR1.out.below hb2); have HS1 := hid HB.out.size; clear he hm2 hb2)
      | (go_at_call 71; refine (rankOfP_any ptShC ptK ptCntC _ t t _ xs _ HDD.out HE2.out HM2.out HR2.out hl HH.out).mono ?_; rintro e w3 ⟨rfl, hg3⟩; have HG3 := hid hg3; clear hg3)
      | fail)
    go_ret2
    exact ⟨ret_nb6 HF.out rfl, HB2.out.grown HG3.out HB2.out.size (fun q hq => by have := Option.some.inj hq; have := HS1.out; omega)⟩
/-- place of x in n, n - 1, .., 1 -/
theorem ixL_fall : ∀ {n x : Nat}, 1 ≤ x → x ≤ n → ixL (x : Int) (fall n) = n - x
  | 0, x, h1, h2 => by omega
  | n + 1, x, h1, h2 => by
    by_cases e : x = n + 1
    · subst e
      rw [fall, ixL, if_pos rfl]; omega
    · rw [fall, ixL, if_neg (by omega), ixL_fall h1 (by omega)]; omega
/-- the sum over y, y - 1, .., x + 1 -/
theorem fall_take : ∀ {n j : Nat}, j < n → (fall n).take (j + 1) = (fall n).take j ++ [((n - j : Nat) : Int)] := by
  intro n j h
  have hl : j < (fall n).length := by rw [fall_length]; exact h
  rw [List.take_succ_eq_append_getElem hl, fall_get hl]
theorem rk_pt {x : Nat} {xs : List Int} {l b : Nat} (h1 : 1 ≤ x) (h2 : x ≤ min l b) :
    rkS ptCh ptNl ptNb ptK ((x : Int) :: xs) l b = sumL (fun y => ptK (ptNl l b y) (ptNb l b y)) ((fall (min l b)).take (min l b - x)) + rkS ptCh ptNl ptNb ptK xs (l - x) x := by
  rw [rkS]
  show sumL _ ((fall (min l b)).take (ixL (x : Int) (fall (min l b)))) + _ = _
  rw [ixL_fall h1 h2]; rfl
theorem sum_step {l q mn j : Nat} (h : j < mn) : sumL (fun y => ptK (ptNl l q y) (ptNb l q y)) ((fall mn).take (j + 1)) = sumL (fun y => ptK (ptNl l q y) (ptNb l q y)) ((fall mn).take j) + pq (mn - j) (l - (mn - j)) := by
  rw [fall_take h, sumL_snoc]; rfl
theorem sum_mono {f : Int → Nat} {ys : List Int} {i j : Nat} (h : i ≤ j) : sumL f (ys.take i) ≤ sumL f (ys.take j) := by
  have := sumL_mono f (ys.take j) i
  rwa [List.take_take, Nat.min_eq_left h] at this
set_option maxHeartbeats 1000000 in
theorem spec_RankParted_any (v : Value) (xs : List Int) (w : World) (h : Sits w v xs) (hl : xs.length ≤ 1048576) (_hwf : ∀ x ∈ xs, (Lit.int .i64 x).wf = true) :
    Calls Try.prog 38 #[v] w fun e w' => e = .returned (.tuple #[.int .i64 (rpRes xs), .bool (ptB xs)]) ∧ Below w.heap.size w w' := by
  have HST := hid h
  cases hg : ptB xs
  · have HF := hid (show rpRes xs = 0 by unfold rpRes; rw [hg]; simp)
    clear h
    go_enter Try.func38, Try.ntmps38
    go_wp2_with (first | (go_at_call 59; refine (spParted_any _ xs _ HST.out hl).mono ?_; rintro e w' ⟨rfl, hb⟩; rw [hg]; have HB := hid hb; clear hb) | fail)
    go_ret2
    exact ⟨ret_nb6 HF.out.symm rfl, HB.out⟩
  · obtain ⟨t, h1, h2, h3, h4, h5⟩ := ptB_parts hg
    have HF := hid (show rpRes xs = (rkS ptCh ptNl ptNb ptK xs t t : Int) by unfold rpRes; rw [if_pos hg, h1]; rfl)
    have HTOT := hid (Nat.le_trans (rkS_lt ptCntC ptShC.dom xs t t (by unfold ptD; omega) (by rw [has_pt]; exact h3)) (ptCntC.bound t t (by unfold ptD; omega)))
    have HALL := hid (fun i (hi : i < xs.length) => (show 1 ≤ xs.getD i 0 ∧ xs.getD i 0 ≤ 20 from ⟨(ptOk_all xs _ _ h3 i hi).1, by have := (ptOk_all xs _ _ h3 i hi).2.1; omega⟩))
    have HSUM := hid (sumI_parts h4 HALL.out)
    have HOK := hid h3
    have HSI := hid h1
    obtain ⟨b, off, c, rfl, hc1, hm, hb, hc⟩ := h
    have HC := hid hc
    clear h1 h3 h5 hc
    go_enter Try.func38, Try.ntmps38
    go_wp2_with (first
      | (go_at_call 59; refine (spParted_any _ xs _ HST.out hl).mono ?_; rintro e w1 ⟨rfl, hb⟩; rw [hg]; have HB1 := hid hb; have HR1 := hid (HST.out.reads.below hb); clear hb)
      | (go_at_call 69; refine (spSum_any _ xs _ HR1.out HSUM.out).mono ?_; rintro e w' ⟨rfl, rfl⟩; rw [HSI.out])
      | fail)
    clear hg
    go_loopw [4, 5, 6, 18] (fun r n m i wr => ∃ k rk l q : Nat, k ≤ xs.length ∧ i = .int .i64 k ∧ r = .int .i64 (rk : Int) ∧ n = .int .i64 (l : Int) ∧ m = .int .i64 (q : Int) ∧ l ≤ 20 ∧ q ≤ 20 ∧ ptOk (xs.drop k) l q = true ∧
      rk + rkS ptCh ptNl ptNb ptK (xs.drop k) l q = rkS ptCh ptNl ptNb ptK xs t t ∧ Below w.heap.size w wr) (fun _ _ _ i _ => xs.length - (intOf i).toNat)
    case atStart => exact ⟨0, 0, t, t, Nat.zero_le _, rfl, rfl, rfl, rfl, h2, h2, HOK.out, by simp, HB1.out⟩
    case round =>
      obtain ⟨k, rk, l, q, hk, rfl, rfl, rfl, rfl, hl20, hq20, hok, hrk, hbel⟩ := hrel
      by_cases hlt : k < xs.length
      · have hcx := (hbel.cell (p := ⟨b, off + k, none⟩) (by exact hb)).trans (HC.out k hlt)
        obtain ⟨x, hx⟩ : ∃ x, x = xs[k] := ⟨_, rfl⟩
        have hd : xs.drop k = x :: xs.drop (k + 1) := by rw [List.drop_eq_getElem_cons hlt, hx]
        rw [← hx] at hcx
        rw [hd] at hok hrk
        obtain ⟨p1, p2, p3⟩ := ptOk_cons.1 hok
        have p4 := ptOk_low _ _ _ p3
        obtain ⟨y, rfl⟩ : ∃ y : Nat, x = (y : Int) := ⟨x.toNat, by omega⟩
        rw [rk_pt (by omega) (by omega)] at hrk
        have htot := HTOT.out
        have HB := hid hbel
        have HN := hid hrk
        have HO := hid (show ptOk (xs.drop (k + 1)) ((l - y : Nat) : Int) (y : Int) = true by rw [show ((l - y : Nat) : Int) = (l : Int) - (y : Int) by omega]; exact p3)
        have HMN := hid (show min (l : Int) (q : Int) = ((min l q : Nat) : Int) by omega)
        obtain ⟨mn, hmn⟩ : ∃ mn, mn = min l q := ⟨_, rfl⟩
        rw [← hmn] at HN HMN
        have hy1 : 1 ≤ y := by omega
        have hy2 : y ≤ mn := by omega
        have hmn2 : mn ≤ l := by omega
        have q1 : (0 : Int) ≤ (k : Int) := by omega
        have q2 : (k : Int) < (xs.length : Int) := by omega
        have hk20 : k ≤ 20 := by omega
        clear hok hrk hbel htot p1 p2 p3 p4 hd hx hmn
        obtain ⟨wo, rfl⟩ : ∃ wo : World, wo = wr := ⟨_, rfl⟩
        go_wp2_with (first | (go_at_call 70; refine (l1Least_any _ _ _).mono ?_; rintro e w' ⟨rfl, rfl⟩; rw [HMN.out]) | fail)
        go_loopw [4, 9] (fun r z wr => ∃ j rk2 : Nat, r = .int .i64 (rk2 : Int) ∧ z = .int .i64 ((mn - j : Nat) : Int) ∧ j ≤ mn - y ∧ rk2 = rk + sumL (fun y => ptK (ptNl l q y) (ptNb l q y)) ((fall mn).take j) ∧ Below w.heap.size w wr) (fun _ z _ => (intOf z).toNat)
        case atStart => exact ⟨0, rk, rfl, rfl, Nat.zero_le _, by simp [sumL], HB.out⟩
        case round =>
          obtain ⟨j, rk2, rfl, rfl, hj, hrk2, hbel⟩ := hrel
          by_cases hlt2 : j < mn - y
          · have HST2 := hid (sum_step (l := l) (q := q) (mn := mn) (j := j) (by omega))
            have hmo := sum_mono (f := fun y => ptK (ptNl l q y) (ptNb l q y)) (ys := fall mn) (show j + 1 ≤ mn - y by omega)
            have htot := HTOT.out
            have hn := HN.out
            obtain ⟨z, hz⟩ : ∃ z, z = mn - j := ⟨_, rfl⟩
            have HCN := hid (fun W => spCount_any (l - z) z W (by omega) (by omega))
            have HNR := hid (show rk2 + pq z (l - z) = rk + sumL (fun y => ptK (ptNl l q y) (ptNb l q y)) ((fall mn).take (j + 1)) by rw [HST2.out, hrk2, hz]; omega)
            have hbd : rk2 + pq z (l - z) ≤ 1000000000 := by have := HNR.out; omega
            obtain ⟨c1, hc1'⟩ : ∃ c1, c1 = pq z (l - z) := ⟨_, rfl⟩
            rw [← hc1'] at HCN HNR hbd
            rw [← hz]
            have hzz : z ≤ 20 := by omega
            have hzl : z ≤ l := by omega
            have hzy : (y : Int) < (z : Int) := by omega
            have HZ := hid (show ((z : Nat) : Int) - 1 = ((mn - (j + 1) : Nat) : Int) by omega)
            have HZT := hid (show ((mn - (j + 1) : Nat) : Int).toNat < z by omega)
            have HBW := hid hbel
            obtain ⟨lz, hlz⟩ : ∃ lz, lz = l - z := ⟨_, rfl⟩
            rw [← hlz] at HCN
            have u1 : IntKind.i64.wrap ((l : Int) - (z : Int)) = (lz : Int) := by rw [IntWalk.i64_in _ (by omega)]; omega
            have u2 : (l : Int) - (z : Int) = (lz : Int) := by omega
            have hbd2 : (rk2 : Int) + (c1 : Int) ≤ 1000000000 := by omega
            have u3 : IntKind.i64.wrap ((rk2 : Int) + (c1 : Int)) = (rk2 : Int) + (c1 : Int) := IntWalk.i64_in _ (by omega)
            clear hrk2 hbel hmo htot hn hz hlz hc1'
            go_wp2_with (first | (go_at_call 65; refine (HCN.out _).mono ?_; rintro e w2 ⟨rfl, hb2⟩; have HB2 := hid (Below_chain HBW.out hb2); clear hb2) | fail)
            go_roundw
            case rel => exact ⟨j + 1, rk2 + c1, by push_cast; rfl, by rw [← HZ.out], by omega, HNR.out, HB2.out⟩
            case measure => simp only [intOf]; have h1 := HZ.out; have h2 := HZT.out; simp; omega
          · obtain rfl : j = mn - y := by omega
            have hz : mn - (mn - y) = y := by omega
            rw [hz]
            have HNR := hid (show rk2 + rkS ptCh ptNl ptNb ptK (xs.drop (k + 1)) (l - y) y = rkS ptCh ptNl ptNb ptK xs t t by rw [hrk2, Nat.add_assoc]; exact HN.out)
            have HBW := hid hbel
            have u1 : IntKind.i64.wrap ((l : Int) - (y : Int)) = ((l - y : Nat) : Int) := by rw [IntWalk.i64_in _ (by omega)]; omega
            have u2 : (l : Int) - (y : Int) = ((l - y : Nat) : Int) := by omega
            have hyy : ¬ ((y : Int) < (y : Int)) := by omega
            have hy20 : y ≤ 20 := by omega
            clear hrk2 hbel hz hj hlt2
            go_wp2_with fail
            go_roundw
            case rel => exact ⟨k + 1, rk2, l - y, y, by omega, by go_num, rfl, by first | rfl | (refine congrArg (Value.int IntKind.i64) ?_; omega), rfl, by omega, hy20, HO.out, HNR.out, HBW.out⟩
            case measure => simp [intOf]; omega
      · obtain rfl : k = xs.length := by omega
        have HE := hid (show (rk : Int) = rpRes xs by rw [HF.out, ← hrk, List.drop_length, rkS]; simp)
        clear hrk hok
        go_wp2_with fail
        go_ret2
        exact ⟨ret_nb6 HE.out rfl, hbel⟩
end Go.Proofs.Ytakelcboamjndab
