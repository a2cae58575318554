/- Contracts: both RankGrowth. Conditions: the slice is not nil and reads as a list of at most 2^20 numbers. -/
import Derived.Test.YtakelcboamjndaaGr2
import Derived.Test.YtakelcboamjndaaRkG
namespace Go.Proofs.Ytakelcboamjndaa
open Go.RowKit Go.Maps
set_option linter.unusedVariables false
set_option maxRecDepth 4000

theorem ixL_upTo {n i : Nat} (h : i < n) : ixL (i : Int) (upTo n) = i := by
  have hm : (i : Int) ∈ upTo n := List.mem_map.2 ⟨i, List.mem_range.2 h, rfl⟩
  have h1 := ixL_lt hm
  have h2 := ixL_get hm
  rw [upTo_length] at h1
  rw [upTo_getD _ _ h1] at h2
  omega
theorem upTo_take {n k : Nat} (h : k ≤ n) : (upTo n).take k = upTo k := by
  apply List.ext_getElem
  · simp [upTo_length]; omega
  · intro i h1 h2
    simp [upTo]
/-- what the number i of a growth adds to the rank -/
theorem gr_term {l b x : Nat} (hx : x ≤ b) : sumL (fun y => ends (grNl (l + 1) b y) (grNb (l + 1) b y)) ((grCh (l + 1) b).take (ixL (x : Int) (grCh (l + 1) b))) = x * ends l b := by
  rw [grCh, ixL_upTo (by omega), upTo_take (by omega)]
  refine sumL_const x (fun i hi => ?_)
  show ends (l + 1 - 1) (max b ((i : Int).toNat + 1)) = _
  rw [Nat.add_sub_cancel, show max b ((i : Int).toNat + 1) = b by simp; omega]
def rgRes (xs : List Int) : Int := if grB xs = true then (rkS grCh grNl grNb ends xs xs.length 0 : Int) else 0
theorem topTo_take {xs : List Int} {k : Nat} (h : k ≤ xs.length) : topL (xs.take k) = topTo xs k := by
  have hl : (xs.take k).length = k := by simp; omega
  unfold topL
  rw [hl]
  have : ∀ j, j ≤ k → topTo (xs.take k) j = topTo xs j := by
    intro j
    induction j with
    | zero => intro _; rfl
    | succ j ih =>
      intro hj
      rw [topTo, topTo, ih (by omega)]
      congr 1
      simp [List.getD_eq_getElem?_getD, show j < k by omega]
  exact this k (Nat.le_refl _)
theorem rk_gr {xs : List Int} (h : grB xs = true) {k : Nat} (hk : k < xs.length) :
    ∃ x b : Nat, xs[k] = (x : Int) ∧ topTo xs k + 1 = (b : Int) ∧ x ≤ b ∧ b ≤ k ∧ rkS grCh grNl grNb ends (xs.drop k) (xs.length - k) b = x * ends (xs.length - k - 1) b + rkS grCh grNl grNb ends (xs.drop (k + 1)) (xs.length - (k + 1)) (max b (x + 1)) ∧ topTo xs (k + 1) + 1 = ((max b (x + 1) : Nat) : Int) := by
  obtain ⟨h1, h2, h3⟩ := grB_iff.1 h
  have ha : allTo k (grAt xs) = true := (allTo_iff _ _).2 (fun i hi => inB_iff.2 (h1 i (by omega)))
  have ht1 := topTo_low xs k
  have ht2 := topTo_le ha
  have hx := h1 k hk
  rw [getD_at hk] at hx
  refine ⟨xs[k].toNat, (topTo xs k + 1).toNat, by omega, by omega, by omega, by omega, ?_, ?_⟩
  · obtain ⟨x, hxe⟩ : ∃ x : Nat, xs[k] = (x : Int) := ⟨xs[k].toNat, by omega⟩
    rw [List.drop_eq_getElem_cons hk, rkS, hxe]
    obtain ⟨l, hl⟩ : ∃ l, xs.length - k = l + 1 := ⟨xs.length - k - 1, by omega⟩
    rw [hl, gr_term (by omega), Nat.add_sub_cancel, show xs.length - (k + 1) = l by omega]
    simp [grNl, grNb]
  · rw [topTo, getD_at hk]; omega
theorem spec_RankGrowth_any (v : Value) (xs : List Int) (w : World) (h : Sits w v xs) (hl : xs.length ≤ 1048576) (_hwf : ∀ x ∈ xs, (Lit.int .i64 x).wf = true) :
    Calls Try.prog 32 #[v] w fun e w' => e = .returned (.tuple #[.int .i64 (rgRes xs), .bool (grB xs)]) ∧ Below w.heap.size w w' := by
  have HR := hid h.reads
  cases hg : grB xs
  · have HF := hid (show rgRes xs = 0 by unfold rgRes; rw [hg]; simp)
    clear h
    go_enter Try.func32, Try.ntmps32
    go_wp2_with (first | (go_at_call 48; refine (spGrowth_any _ xs _ HR.out hl).mono ?_; rintro e w' ⟨rfl, rfl⟩; rw [hg]) | fail)
    go_ret2
    exact ⟨ret_nb6 HF.out.symm rfl, Below.refl _ _⟩
  · have HF := hid (show rgRes xs = (rkS grCh grNl grNb ends xs xs.length 0 : Int) by unfold rgRes; rw [if_pos hg])
    obtain ⟨h1, h2, h3⟩ := grB_iff.1 hg
    have HS := hid h
    obtain ⟨b, off, c, rfl, hc1, hm, hb, hc⟩ := h
    have HC := hid hc
    have HGB := hid hg
    have HTOT := hid (Nat.le_trans (rkS_lt grCntC grShC.dom xs xs.length 0 (by unfold grD; omega) (by rw [has_growth (inB_iff.2 ⟨by omega, by omega⟩)]; exact hg)) (grCntC.bound xs.length 0 (by unfold grD; omega)))
    clear h1 hc
    go_enter Try.func32, Try.ntmps32
    go_wp2_with (first | (go_at_call 48; refine (spGrowth_any _ xs _ HR.out hl).mono ?_; rintro e w' ⟨rfl, rfl⟩; rw [hg]) | fail)
    clear hg
    go_loopw [4, 5] (fun r i wr => ∃ k rk b : Nat, 1 ≤ k ∧ k ≤ xs.length ∧ i = .int .i64 k ∧ r = .int .i64 (rk : Int) ∧ topTo xs k + 1 = (b : Int) ∧ rk + rkS grCh grNl grNb ends (xs.drop k) (xs.length - k) b = rkS grCh grNl grNb ends xs xs.length 0 ∧ Below w.heap.size w wr) (fun _ i _ => xs.length - (intOf i).toNat)
    case atStart =>
      obtain ⟨x, b', e1, e2, e3, e4, e5, e6⟩ := rk_gr HGB.out (k := 0) (by omega)
      obtain rfl : b' = 0 := by omega
      obtain rfl : x = 0 := by omega
      refine ⟨1, 0, 1, Nat.le_refl _, by omega, rfl, rfl, by simpa using e6, ?_, Below.refl _ _⟩
      have := e5
      simp only [List.drop_zero, Nat.sub_zero] at this
      rw [this]; simp
    case round =>
      obtain ⟨k, rk, b', hk1, hk, rfl, rfl, htp, hrk, hbel⟩ := hrel
      by_cases hlt : k < xs.length
      · obtain ⟨x, b2, e1, e2, e3, e4, e5, e6⟩ := rk_gr HGB.out hlt
        obtain rfl : b' = b2 := by omega
        have hcx := (hbel.cell (p := ⟨b, off + k, none⟩) (by exact hb)).trans (HC.out k hlt)
        rw [e1] at hcx
        have htot := HTOT.out
        have hle := ends_le (k := xs.length - k - 1) (m := b') (by omega) (by omega)
        have HTP := hid (topTo_take (xs := xs) (k := k) (by omega))
        have HTK := hid ((Sits_take k (by omega) hc1 hm (Nat.lt_of_lt_of_le hb hbel.size) (fun i hi => (hbel.cell (p := ⟨b, off + i, none⟩) (by exact hb)).trans (HC.out i hi))).reads)
        have HEN := hid (fun W => spEnds_any (xs.length - k - 1) b' W (by omega) (by omega))
        have hltk : (xs.take k).length ≤ 1048576 := by simp; omega
        obtain ⟨q, hq⟩ : ∃ q, q = ends (xs.length - k - 1) b' := ⟨_, rfl⟩
        rw [← hq] at HEN e5 hle
        obtain ⟨pr, hpr⟩ : ∃ pr, pr = x * q := ⟨_, rfl⟩
        rw [← hpr] at e5
        have hpr' : (x : Int) * (q : Int) = (pr : Int) := by rw [hpr]; push_cast; rfl
        have u1 : IntKind.i64.wrap ((x : Int) * (q : Int)) = (pr : Int) := by rw [hpr']; exact IntWalk.i64_in _ (by omega)
        have u2 : IntKind.i64.wrap ((rk : Int) + (pr : Int)) = (rk : Int) + (pr : Int) := IntWalk.i64_in _ (by omega)
        have HN := hid (show rk + pr + rkS grCh grNl grNb ends (xs.drop (k + 1)) (xs.length - (k + 1)) (max b' (x + 1)) = rkS grCh grNl grNb ends xs xs.length 0 by omega)
        have HT6 := hid e6
        have HTB := hid (show topTo xs k = (b' : Int) - 1 by omega)
        have q1 : (0 : Int) ≤ (k : Int) := by omega
        have q2 : (k : Int) < (xs.length : Int) := by omega
        clear e1 e2 e5 e6 hq hpr hpr' hrk htot hle htp
        have HTC := hid (fun (W : World) (hW : Reads W (.slice (some ⟨b, off, none⟩) k c) (xs.take k)) => (spTop_any _ (xs.take k) W hW hltk).mono fun e w' h => (⟨by rw [h.1, HTP.out, HTB.out], h.2.symm⟩ : e = .returned (.int .i64 ((b' : Int) - 1)) ∧ w' = W))
        have u3 : IntKind.i64.wrap ((b' : Int) - 1 + 1) = (b' : Int) := by rw [IntWalk.i64_in _ (by omega)]; omega
        have u4 : IntKind.i64.wrap (IntKind.i64.wrap ((xs.length : Int) - (k : Int)) - 1) = ((xs.length - k - 1 : Nat) : Int) := by rw [IntWalk.i64_in ((xs.length : Int) - (k : Int)) (by omega), IntWalk.i64_in _ (by omega)]; omega
        have u5 : (b' : Int) - 1 + 1 = (b' : Int) := by omega
        have u6 : (xs.length : Int) - (k : Int) - 1 = ((xs.length - k - 1 : Nat) : Int) := by omega
        go_wp2_with fail
        go_quiet (first
          | (go_at_call 62; exact Calls.quiet_of_same (HTC.out _ HTK.out))
          | (go_at_call 60; exact Calls.quiet_of_same ((HEN.out _).mono fun _ _ h => ⟨h.1, h.2.symm⟩))
          | fail)
        go_wp2_with fail
        go_roundw
        case rel => exact ⟨k + 1, rk + pr, max b' (x + 1), by omega, by omega, by go_num, by push_cast; rfl, HT6.out, HN.out, below_drewN hbel _⟩
        case measure => simp [intOf]; omega
      · obtain rfl : k = xs.length := by omega
        have HE := hid (show (rk : Int) = rgRes xs by rw [HF.out, ← hrk, List.drop_length, rkS]; simp)
        clear hrk htp
        go_wp2_with fail
        go_ret2
        exact ⟨ret_nb6 HE.out rfl, hbel⟩
theorem impl_RankGrowth_any (v : Value) (xs : List Int) (w : World) (h : Sits w v xs) (hl : xs.length ≤ 1048576) (_hwf : ∀ x ∈ xs, (Lit.int .i64 x).wf = true) :
    Calls Try.prog 33 #[v] w fun e w' => e = .returned (.tuple #[.int .i64 (rgRes xs), .bool (grB xs)]) ∧ Below w.heap.size w w' := by
  have HR := hid h.reads
  obtain ⟨b, off, c, rfl, hc1, hm, hb, hc⟩ := h
  clear hc
  cases hg : grB xs
  · have HF := hid (show rgRes xs = 0 by unfold rgRes; rw [hg]; simp)
    go_enter Try.func33, Try.ntmps33
    go_wp2_with (first | (go_at_call 17; refine (impl_IsGrowth_any _ xs _ HR.out hl).mono ?_; rintro e w1 ⟨rfl, hb⟩; rw [hg]; have HB := hid hb; clear hb) | fail)
    go_ret2
    exact ⟨ret_nb6 HF.out.symm rfl, HB.out⟩
  · have HF := hid (show (rkS grCh grNl grNb ends xs xs.length 0 : Int) = rgRes xs by unfold rgRes; rw [if_pos hg])
    obtain ⟨h1, h2, h3⟩ := grB_iff.1 hg
    have HG := hid (fun W => growthsOf_any xs.length W (by omega))
    have HDD := hid (show grD xs.length 0 by unfold grD; omega)
    have HH := hid (show hasS grCh grNl grNb xs xs.length 0 = true by rw [has_growth (inB_iff.2 ⟨by omega, by omega⟩)]; exact hg)
    clear h1
    go_enter Try.func33, Try.ntmps33
    go_wp2_with (first
      | (go_at_call 17; refine (impl_IsGrowth_any _ xs _ HR.out hl).mono ?_; rintro e w1 ⟨rfl, hb⟩; rw [hg]; have HB := hid hb; clear hb)
      | (go_at_call 50; refine (HG.out _).mono ?_; rintro e w2 ⟨rfl, he, hm2, hb2⟩; have HE2 := hid he; have HM2 := hid hm2; have HB2 := hid (Below_chain HB.out hb2); have HR2 := hid (HR.out.below HB2.out); have HS1 := hid HB.out.size; clear he hm2 hb2)
      | (go_at_call 63; refine (rankOfG_any grShC ends grCntC _ xs.length 0 _ xs _ HDD.out HE2.out HM2.out HR2.out hl HH.out).mono ?_; rintro e w3 ⟨rfl, hg3⟩; have HG3 := hid hg3; clear hg3)
      | fail)
    go_ret2
    exact ⟨ret_nb6 HF.out rfl, HB2.out.grown HG3.out HB2.out.size (fun q hq => by have := Option.some.inj hq; have := HS1.out; omega)⟩
end Go.Proofs.Ytakelcboamjndaa
