/- Contracts: both IsBalancedWord, CountBalanced, RankBalanced, BalancedWith. Conditions: slices that are not nil and read as lists of at most 2^20 numbers; ints in their range. -/
import Derived.Test.YtakelcboamjndaaBal1
import Derived.Test.YtakelcboamjndaaClS
import Derived.Test.YtakelcboamjndaaHasB
import Derived.Test.YtakelcboamjndaaCntB
import Derived.Test.YtakelcboamjndaaRkB
import Derived.Test.YtakelcboamjndaaPkB
import Derived.Test.YtakelcboamjndaaGr2
namespace Go.Proofs.Ytakelcboamjndaa
open Go.RowKit Go.Maps
set_option linter.unusedVariables false
set_option maxRecDepth 4000

theorem half_len (n : Nat) (h : n ≤ 1048576) : wrap64 ((n : Int) / 2) = ((n / 2 : Nat) : Int) := by
  rw [← IntWalk.i64_left, IntWalk.i64_in _ (by omega)]; omega
theorem impl_IsBalancedWord_any (v : Value) (xs : List Int) (w : World) (h : Reads w v xs) (hl : xs.length ≤ 1048576) :
    Calls Try.prog 39 #[v] w fun e w' => e = .returned (.bool (blB xs)) ∧ Below w.heap.size w w' := by
  have H := hid h
  obtain ⟨ao, c, rfl, hc1, hm, _⟩ := h.view
  clear h
  have hh := half_len xs.length hl
  have HH := hid (has_balanced (xs := xs))
  have HFR := hid (bl_far (xs := xs))
  obtain ⟨p, hp⟩ : ∃ p, p = xs.length / 2 := ⟨_, rfl⟩
  rw [← hp] at hh HH HFR
  have hh2 : (xs.length : Int) / 2 = (p : Int) := by omega
  clear hp
  cases hn : inB (p : Int) 0 12
  · have HF := hid (show blB xs = false from HFR.out (by
      intro hc
      have : inB (p : Int) 0 12 = true := inB_iff.2 ⟨by omega, by omega⟩
      rw [this] at hn; exact absurd hn (by simp)))
    go_enter Try.func39, Try.ntmps39
    go_wp2_with (first | (go_at_call 73; refine (isPairCount_any _ _).mono ?_; rintro e w' ⟨rfl, rfl⟩; (try rw [hh2]); rw [hn]) | fail)
    go_ret
    exact ⟨ret_bool HF.out.symm, Below.refl _ _⟩
  · have hb := inB_iff.1 hn
    have HF := hid (HH.out (by omega))
    have HG := hid (fun W => balancedWordsOf_any p (2 * p) W rfl (by omega))
    have HDD := hid (show blD (2 * p) 0 by unfold blD; omega)
    obtain ⟨l, hl2⟩ : ∃ l, l = 2 * p := ⟨_, rfl⟩
    rw [← hl2] at HF HG HDD
    clear hb hl2 HH HFR
    go_enter Try.func39, Try.ntmps39
    go_wp2_with (first
      | (go_at_call 73; refine (isPairCount_any _ _).mono ?_; rintro e w' ⟨rfl, rfl⟩; (try rw [hh2]); rw [hn])
      | (go_at_call 74; refine (HG.out _).mono ?_; rintro e w1 ⟨rfl, _, _, hb⟩; have HB1 := hid hb; have H1 := hid (H.out.below hb); clear hb)
      | (go_at_call 51; refine (hasB_any blShC _ l 0 _ xs _ HDD.out H1.out hl).mono ?_; rintro e w2 ⟨rfl, hb⟩; have HB2 := hid (Below_chain HB1.out hb); clear hb)
      | fail)
    go_ret
    exact ⟨ret_bool HF.out, HB2.out⟩
theorem impl_IsBalancedWord_c (v : Value) (xs : List Int) (w : World) (h : Sits w v xs) (hl : xs.length ≤ 1048576) (_hwf : ∀ x ∈ xs, (Lit.int .i64 x).wf = true) :
    Calls Try.prog 39 #[v] w fun e w' => e = .returned (.bool (blB xs)) ∧ Below w.heap.size w w' := impl_IsBalancedWord_any v xs w h.reads hl
theorem spec_IsBalancedWord_c (v : Value) (xs : List Int) (w : World) (h : Sits w v xs) (hl : xs.length ≤ 1048576) (_hwf : ∀ x ∈ xs, (Lit.int .i64 x).wf = true) :
    Calls Try.prog 38 #[v] w fun e w' => e = .returned (.bool (blB xs)) ∧ Below w.heap.size w w' := by
  have H := hid h.reads
  clear h
  go_enter Try.func38, Try.ntmps38
  go_wp2_with (go_at_call 72; refine (spBalanced_any _ _ _ H.out hl).mono ?_; rintro e w' ⟨rfl, rfl⟩)
  go_ret
  exact ⟨rfl, Below.refl _ _⟩
def cbRes (n : Int) : Int := if inB n 0 12 = true then (cl n.toNat 0 : Int) else 0
theorem blK_all (n : Nat) : blK (2 * n) 0 = cl n 0 := by
  unfold blK
  rw [show (2 * n - 0) / 2 = n by omega]
theorem spec_CountBalanced_any (n : Int) (w : World) (_wn : (Lit.int .i64 n).wf = true) :
    Calls Try.prog 40 #[.int .i64 n] w fun e w' => e = .returned (.tuple #[.int .i64 (cbRes n), .bool (inB n 0 12)]) ∧ Below w.heap.size w w' := by
  cases hn : inB n 0 12
  · have HF := hid (show cbRes n = 0 by unfold cbRes; rw [hn]; simp)
    go_enter Try.func40, Try.ntmps40
    go_wp2_with (first | (go_at_call 55; refine (l1In_any _ _ _ _).mono ?_; rintro e w' ⟨rfl, rfl⟩; rw [hn]) | fail)
    go_ret2
    exact ⟨ret_nb6 HF.out.symm rfl, Below.refl _ _⟩
  · obtain ⟨h1, h2⟩ := inB_iff.1 hn
    obtain ⟨k, rfl⟩ : ∃ k : Nat, n = (k : Int) := ⟨n.toNat, by omega⟩
    have HF := hid (show cbRes (k : Int) = (cl k 0 : Int) by unfold cbRes; rw [if_pos hn]; rfl)
    have HE := hid (fun W => spCloses_any 0 k W (by omega) (by omega))
    go_enter Try.func40, Try.ntmps40
    go_wp2_with (first | (go_at_call 55; refine (l1In_any _ _ _ _).mono ?_; rintro e w' ⟨rfl, rfl⟩; rw [hn]) | (go_at_call 75; refine (HE.out _).mono ?_; rintro e w1 ⟨rfl, hb⟩; have HB1 := hid hb; clear hb) | fail)
    go_ret2
    exact ⟨ret_nb6 HF.out.symm rfl, HB1.out⟩
theorem impl_CountBalanced_any (n : Int) (w : World) (_wn : (Lit.int .i64 n).wf = true) :
    Calls Try.prog 41 #[.int .i64 n] w fun e w' => e = .returned (.tuple #[.int .i64 (cbRes n), .bool (inB n 0 12)]) ∧ Below w.heap.size w w' := by
  cases hn : inB n 0 12
  · have HF := hid (show cbRes n = 0 by unfold cbRes; rw [hn]; simp)
    go_enter Try.func41, Try.ntmps41
    go_wp2_with (first | (go_at_call 73; refine (isPairCount_any _ _).mono ?_; rintro e w' ⟨rfl, rfl⟩; rw [hn]) | fail)
    go_ret2
    exact ⟨ret_nb6 HF.out.symm rfl, Below.refl _ _⟩
  · obtain ⟨h1, h2⟩ := inB_iff.1 hn
    obtain ⟨k, rfl⟩ : ∃ k : Nat, n = (k : Int) := ⟨n.toNat, by omega⟩
    have HF := hid (show cbRes (k : Int) = (blK (2 * k) 0 : Int) by unfold cbRes; rw [if_pos hn, blK_all]; rfl)
    have HG := hid (fun W => balancedWordsOf_any k (2 * k) W rfl (by omega))
    have HDD := hid (show blD (2 * k) 0 by unfold blD; omega)
    obtain ⟨l, hl2⟩ : ∃ l, l = 2 * k := ⟨_, rfl⟩
    rw [← hl2] at HF HG HDD
    clear hl2
    go_enter Try.func41, Try.ntmps41
    go_wp2_with (first
      | (go_at_call 73; refine (isPairCount_any _ _).mono ?_; rintro e w' ⟨rfl, rfl⟩; rw [hn])
      | (go_at_call 74; refine (HG.out _).mono ?_; rintro e w1 ⟨rfl, he, hm, hb⟩; have HE1 := hid he; have HM1 := hid hm; have HB1 := hid hb; clear he hm hb)
      | (go_at_call 61; refine (countAllB_any blShC blK blCntC _ l 0 _ HDD.out HE1.out ⟨_, HM1.out.mono (by omega), KInv.empty _⟩).mono ?_; rintro e w2 ⟨rfl, _, hg⟩; have HG2 := hid hg; clear hg)
      | fail)
    go_ret2
    exact ⟨ret_nb6 HF.out.symm rfl, HB1.out.grown HG2.out HB1.out.size (fun q hq => by have := Option.some.inj hq; omega)⟩
def rbRes (xs : List Int) : Int := if blB xs = true then (rkS blCh blNl blNb blK xs xs.length 0 : Int) else 0
theorem blB_parts {xs : List Int} (h : blB xs = true) : blOk xs 0 = true ∧ xs.length ≤ 24 ∧ xs.length % 2 = 0 := by
  unfold blB at h
  rw [Bool.and_eq_true, decide_eq_true_eq] at h
  have := (blOk_le xs _ h.1).2
  exact ⟨h.1, h.2, by omega⟩
theorem impl_RankBalanced_any (v : Value) (xs : List Int) (w : World) (h : Sits w v xs) (hl : xs.length ≤ 1048576) (_hwf : ∀ x ∈ xs, (Lit.int .i64 x).wf = true) :
    Calls Try.prog 43 #[v] w fun e w' => e = .returned (.tuple #[.int .i64 (rbRes xs), .bool (blB xs)]) ∧ Below w.heap.size w w' := by
  have HR := hid h.reads
  obtain ⟨b, off, c, rfl, hc1, hm, hb, hc⟩ := h
  clear hc
  cases hg : blB xs
  · have HF := hid (show rbRes xs = 0 by unfold rbRes; rw [hg]; simp)
    go_enter Try.func43, Try.ntmps43
    go_wp2_with (first | (go_at_call 39; refine (impl_IsBalancedWord_any _ xs _ HR.out hl).mono ?_; rintro e w1 ⟨rfl, hb⟩; rw [hg]; have HB := hid hb; clear hb) | fail)
    go_ret2
    exact ⟨ret_nb6 HF.out.symm rfl, HB.out⟩
  · have HF := hid (show (rkS blCh blNl blNb blK xs xs.length 0 : Int) = rbRes xs by unfold rbRes; rw [if_pos hg])
    obtain ⟨h1, h2, h3⟩ := blB_parts hg
    have hh := half_len xs.length hl
    obtain ⟨p, hp⟩ : ∃ p, p = xs.length / 2 := ⟨_, rfl⟩
    have hlen : xs.length = 2 * p := by omega
    rw [← hp] at hh
    have hh2 : (xs.length : Int) / 2 = (p : Int) := by omega
    have HG := hid (fun W => balancedWordsOf_any p xs.length W hlen (by omega))
    have HDD := hid (show blD xs.length 0 by unfold blD; omega)
    have HH := hid (show hasS blCh blNl blNb xs xs.length 0 = true by rw [hlen, hp, has_balanced (by omega)]; exact hg)
    clear h1 h2 h3 hp hlen
    go_enter Try.func43, Try.ntmps43
    go_wp2_with (first
      | (go_at_call 39; refine (impl_IsBalancedWord_any _ xs _ HR.out hl).mono ?_; rintro e w1 ⟨rfl, hb⟩; rw [hg]; have HB := hid hb; clear hb)
      | (go_at_call 74; (try rw [hh2]); refine (HG.out _).mono ?_; rintro e w2 ⟨rfl, he, hm2, hb2⟩; have HE2 := hid he; have HM2 := hid hm2; have HB2 := hid (Below_chain HB.out hb2); have HR2 := hid (HR.out.below HB2.out); have HS1 := hid HB.out.size; clear he hm2 hb2)
      | (go_at_call 63; refine (rankOfB_any blShC blK blCntC _ xs.length 0 _ xs _ HDD.out HE2.out HM2.out HR2.out hl HH.out).mono ?_; rintro e w3 ⟨rfl, hg3⟩; have HG3 := hid hg3; clear hg3)
      | fail)
    go_ret2
    exact ⟨ret_nb6 HF.out rfl, HB2.out.grown HG3.out HB2.out.size (fun q hq => by have := Option.some.inj hq; have := HS1.out; omega)⟩
set_option maxHeartbeats 1000000 in
theorem spec_RankBalanced_any (v : Value) (xs : List Int) (w : World) (h : Sits w v xs) (hl : xs.length ≤ 1048576) (_hwf : ∀ x ∈ xs, (Lit.int .i64 x).wf = true) :
    Calls Try.prog 42 #[v] w fun e w' => e = .returned (.tuple #[.int .i64 (rbRes xs), .bool (blB xs)]) ∧ Below w.heap.size w w' := by
  have HR := hid h.reads
  cases hg : blB xs
  · have HF := hid (show rbRes xs = 0 by unfold rbRes; rw [hg]; simp)
    clear h
    go_enter Try.func42, Try.ntmps42
    go_wp2_with (first | (go_at_call 72; refine (spBalanced_any _ xs _ HR.out hl).mono ?_; rintro e w' ⟨rfl, rfl⟩; rw [hg]) | fail)
    go_ret2
    exact ⟨ret_nb6 HF.out.symm rfl, Below.refl _ _⟩
  · have HF := hid (show rbRes xs = (rkS blCh blNl blNb blK xs xs.length 0 : Int) by unfold rbRes; rw [if_pos hg])
    obtain ⟨h1, h2, h3⟩ := blB_parts hg
    have hh := half_len xs.length hl
    obtain ⟨p, hp⟩ : ∃ p, p = xs.length / 2 := ⟨_, rfl⟩
    have hlen : xs.length = 2 * p := by omega
    rw [← hp] at hh
    have hh2 : (xs.length : Int) / 2 = (p : Int) := by omega
    have HOK := hid h1
    have HLEN := hid hlen
    have HTOT := hid (Nat.le_trans (rkS_lt blCntC blShC.dom xs xs.length 0 (by unfold blD; omega) (by rw [hlen, hp, has_balanced (by omega)]; exact hg)) (blCntC.bound xs.length 0 (by unfold blD; omega)))
    obtain ⟨b, off, c, rfl, hc1, hm, hb, hc⟩ := h
    have HC := hid hc
    clear h1 hc h3 hp hlen
    go_enter Try.func42, Try.ntmps42
    go_wp2_with (first | (go_at_call 72; refine (spBalanced_any _ xs _ HR.out hl).mono ?_; rintro e w' ⟨rfl, rfl⟩; rw [hg]) | fail)
    clear hg
    go_loopw [4, 5, 6, 17] (fun r o q i wr => ∃ k rk t s : Nat, k ≤ xs.length ∧ i = .int .i64 k ∧ r = .int .i64 (rk : Int) ∧ o = .int .i64 (t : Int) ∧ q = .int .i64 (s : Int) ∧ t + 2 * s + k = xs.length ∧ blOk (xs.drop k) t = true ∧
      rk + rkS blCh blNl blNb blK (xs.drop k) (xs.length - k) t = rkS blCh blNl blNb blK xs xs.length 0 ∧ Below w.heap.size w wr) (fun _ _ _ i _ => xs.length - (intOf i).toNat)
    case atStart => exact ⟨0, 0, 0, p, Nat.zero_le _, rfl, rfl, rfl, rfl, by have := HLEN.out; omega, HOK.out, by simp, Below.refl _ _⟩
    case round =>
      obtain ⟨k, rk, t, s, hk, rfl, rfl, rfl, rfl, hts, hok, hrk, hbel⟩ := hrel
      by_cases hlt : k < xs.length
      · have hcx := (hbel.cell (p := ⟨b, off + k, none⟩) (by exact hb)).trans (HC.out k hlt)
        obtain ⟨x, hx⟩ : ∃ x, x = xs[k] := ⟨_, rfl⟩
        have hd : xs.drop k = x :: xs.drop (k + 1) := by rw [List.drop_eq_getElem_cons hlt, hx]
        rw [← hx] at hcx
        rw [hd] at hok hrk
        obtain ⟨x1, x2, x3, x4⟩ := blOk_cons.1 hok
        have htot := HTOT.out
        have hx01 : x = 0 ∨ x = 1 := by omega
        rcases hx01 with rfl | rfl
        · obtain ⟨t', rfl⟩ : ∃ t', t = t' + 1 := ⟨t - 1, by omega⟩
          rw [rk_bl0] at hrk
          have HN := hid (show rk + rkS blCh blNl blNb blK (xs.drop (k + 1)) (xs.length - (k + 1)) t' = rkS blCh blNl blNb blK xs xs.length 0 by rw [← hrk]; rfl)
          have HO := hid (show blOk (xs.drop (k + 1)) (t' : Int) = true by rw [show (t' : Int) = ((t' + 1 : Nat) : Int) + (2 * 0 - 1) by omega]; exact x4)
          have HB := hid hbel
          have u1 : IntKind.i64.wrap (((t' + 1 : Nat) : Int) - 1) = (t' : Int) := by rw [IntWalk.i64_in _ (by omega)]; omega
          have q1 : (0 : Int) ≤ (k : Int) := by omega
          have q2 : (k : Int) < (xs.length : Int) := by omega
          have HTS := hid (show t' + 2 * s + (k + 1) = xs.length by omega)
          have hbt : t' + 1 ≤ 24 := by omega
          have hbs : s ≤ 12 := by omega
          clear hok hrk hbel htot x4 hd hx x3 hts
          go_wp2_with fail
          go_roundw
          case rel => exact ⟨k + 1, rk, t', s, by omega, by go_num, rfl, by first | (go_num; done) | (refine congrArg (Value.int IntKind.i64) ?_; first | omega | (rw [← IntWalk.i64_left, IntWalk.i64_in _ (by omega)]; omega)), rfl, HTS.out, HO.out, HN.out, HB.out⟩
          case measure => simp [intOf]; omega
        · have hle := (blOk_le _ _ x4).1
          rw [List.length_drop] at hle
          rw [rk_bl1 (by unfold blD; omega) (by omega)] at hrk
          obtain ⟨s', rfl⟩ : ∃ s', s = s' + 1 := ⟨s - 1, by omega⟩
          rw [show (xs.length - k - t) / 2 = s' + 1 by omega] at hrk
          have HO := hid (show blOk (xs.drop (k + 1)) ((t + 1 : Nat) : Int) = true by rw [show ((t + 1 : Nat) : Int) = (t : Int) + (2 * 1 - 1) by omega]; exact x4)
          have HB := hid hbel
          have u1 : IntKind.i64.wrap ((t : Int) + 1) = ((t + 1 : Nat) : Int) := by rw [IntWalk.i64_in _ (by omega)]; omega
          have u2 : IntKind.i64.wrap (((s' + 1 : Nat) : Int) - 1) = (s' : Int) := by rw [IntWalk.i64_in _ (by omega)]; omega
          have q1 : (0 : Int) ≤ (k : Int) := by omega
          have q2 : (k : Int) < (xs.length : Int) := by omega
          have HTS := hid (show t + 1 + 2 * s' + (k + 1) = xs.length by omega)
          have hbt : t ≤ 24 := by omega
          have hbs : s' + 1 ≤ 12 := by omega
          by_cases h0 : t = 0
          · subst h0
            rw [if_pos rfl, Nat.zero_add] at hrk
            have HN := hid (show rk + rkS blCh blNl blNb blK (xs.drop (k + 1)) (xs.length - (k + 1)) (0 + 1) = rkS blCh blNl blNb blK xs xs.length 0 by rw [← hrk]; rfl)
            clear hok hrk hbel htot x4 hd hx x3 hts hle
            go_wp2_with fail
            go_roundw
            case rel => exact ⟨k + 1, rk, 1, s', by omega, by go_num, rfl, by first | (go_num; done) | (refine congrArg (Value.int IntKind.i64) ?_; first | omega | (rw [← IntWalk.i64_left, IntWalk.i64_in _ (by omega)]; omega)), by first | (go_num; done) | (refine congrArg (Value.int IntKind.i64) ?_; first | omega | (rw [← IntWalk.i64_left, IntWalk.i64_in _ (by omega)]; omega)), HTS.out, HO.out, HN.out, HB.out⟩
            case measure => simp [intOf]; omega
          · obtain ⟨t', rfl⟩ : ∃ t', t = t' + 1 := ⟨t - 1, by omega⟩
            rw [if_neg (by omega), Nat.add_sub_cancel] at hrk
            have HCL := hid (fun W => spCloses_any t' (s' + 1) W (by omega) (by omega))
            obtain ⟨c1, hc1'⟩ : ∃ c1, c1 = cl (s' + 1) t' := ⟨_, rfl⟩
            rw [← hc1'] at HCL hrk
            have HN := hid (show rk + c1 + rkS blCh blNl blNb blK (xs.drop (k + 1)) (xs.length - (k + 1)) (t' + 1 + 1) = rkS blCh blNl blNb blK xs xs.length 0 by rw [← hrk, Nat.add_assoc]; rfl)
            have u3 : IntKind.i64.wrap (((t' + 1 : Nat) : Int) - 1) = (t' : Int) := by rw [IntWalk.i64_in _ (by omega)]; omega
            have hrb : (rk : Int) + (c1 : Int) ≤ 1000000000 := by omega
            have u4 : IntKind.i64.wrap ((rk : Int) + (c1 : Int)) = (rk : Int) + (c1 : Int) := IntWalk.i64_in _ (by omega)
            clear hok hrk hbel htot x4 hd hx x3 hts hle hc1'
            go_wp2_with (first
              | (go_at_call 75; refine (HCL.out _).mono ?_; rintro e w1 ⟨rfl, hb1⟩; have HB1 := hid (Below_chain HB.out hb1); clear hb1)
              | fail)
            go_roundw
            case rel => exact ⟨k + 1, rk + c1, t' + 1 + 1, s', by omega, by go_num, by push_cast; rfl, by first | (go_num; done) | (refine congrArg (Value.int IntKind.i64) ?_; first | omega | (rw [← IntWalk.i64_left, IntWalk.i64_in _ (by omega)]; omega)), by first | (go_num; done) | (refine congrArg (Value.int IntKind.i64) ?_; first | omega | (rw [← IntWalk.i64_left, IntWalk.i64_in _ (by omega)]; omega)), HTS.out, HO.out, HN.out, HB1.out⟩
            case measure => simp [intOf]; omega
      · obtain rfl : k = xs.length := by omega
        have HE := hid (show (rk : Int) = rbRes xs by rw [HF.out, ← hrk, List.drop_length, rkS]; simp)
        clear hrk hok hts
        go_wp2_with fail
        go_ret2
        exact ⟨ret_nb6 HE.out rfl, hbel⟩
end Go.Proofs.Ytakelcboamjndaa
