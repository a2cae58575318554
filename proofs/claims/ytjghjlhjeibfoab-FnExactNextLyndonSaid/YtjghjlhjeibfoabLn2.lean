/- Contracts: both NextLyndon. Conditions: slices that are not nil and read as lists of at most 2^20 numbers, ints in their range. -/
import Derived.Test.YtjghjlhjeibfoabLn1
import Derived.Test.YtjghjlhjeibfoabKind
import Derived.Test.YtjghjlhjeibfoabLy5
namespace Go.Proofs.Ytjghjlhjeibfoab
open Go.RowKit
set_option linter.unusedVariables false
set_option maxRecDepth 4000

def allB (xs : List Int) (k : Int) : Bool := allTo xs.length (fun i => inB (xs.getD i 0) 0 (k - 1))
theorem allB_bel {xs : List Int} {k : Nat} (h : allB xs (k : Int) = true) : belL k xs := by
  intro i hi
  have := (allTo_iff _ _).1 h i hi
  exact inB_iff.1 this
def nlP (xs : List Int) (n k : Int) : Bool := kindB n k && (lyW xs && (decide ((xs.length : Int) ≤ n) && (allB xs k && lynB xs)))
def nlB (xs : List Int) (n k : Int) : Bool := nlP xs n k && decide (0 < (nxL xs n.toNat k.toNat).length)
def nlRes (xs : List Int) (n k : Int) : List Int := if nlP xs n k = true then nxL xs n.toNat k.toNat else []
theorem nlRes_yes {xs : List Int} {n k : Int} (h : nlP xs n k = true) : nlRes xs n k = nxL xs n.toNat k.toNat := by unfold nlRes; rw [if_pos h]
theorem nlRes_no {xs : List Int} {n k : Int} (h : nlP xs n k = false) : nlRes xs n k = [] := by unfold nlRes; rw [if_neg (by rw [h]; simp)]
theorem nlB_no {xs : List Int} {n k : Int} (h : nlP xs n k = false) : nlB xs n k = false := by unfold nlB; rw [h]; rfl
theorem OwnE.shp2 {w : World} {base : Nat} {v : Value} {xs : List Int} (h : OwnE w base v xs) : ∃ ao c, v = .slice ao xs.length c ∧ xs.length ≤ c ∧ c ≤ 9223372036854775807 := by
  rcases h with ⟨rfl, rfl⟩ | ⟨g, cap, cur, rfl, _, _, h1, h2, _⟩
  · exact ⟨none, 0, rfl, Nat.le_refl _, by omega⟩
  · exact ⟨_, cap, rfl, h1, by unfold maxLen at h2; omega⟩
theorem bound_NextLyndon (xs : List Int) (n k : Int) : (nlRes xs n k).length ≤ 1048576 := by
  cases h : nlP xs n k with
  | false => rw [nlRes_no h]; simp
  | true =>
    rw [nlRes_yes h]
    have := nxL_len xs n.toNat k.toNat
    simp only [nlP, Bool.and_eq_true] at h
    have := kindB_iff.1 h.1
    omega
set_option maxHeartbeats 1000000 in
theorem law_spec_NextLyndon (v : Value) (xs : List Int) (n k : Int) (w : World) (h : Sits w v xs) (hl : xs.length ≤ 1048576) (_hwf : ∀ x ∈ xs, (Lit.int .i64 x).wf = true) (_wn : (Lit.int .i64 n).wf = true) (_wk : (Lit.int .i64 k).wf = true) :
    Calls Try.prog 16 #[v, .int .i64 n, .int .i64 k] w fun e w' => ∃ u, e = .returned (.tuple #[u, .bool (nlB xs n k)]) ∧ OwnE w' w.heap.size u (nlRes xs n k) ∧ Below w.heap.size w w' := by
  have HS := hid h
  obtain ⟨b, off, c, rfl, hc1, hm, hb, hc⟩ := h
  clear hc
  cases hk0 : kindB n k with
  | false =>
    have HP := hid (show nlP xs n k = false by unfold nlP; rw [hk0]; rfl)
    have HF := hid (nlRes_no HP.out)
    have HG := hid (nlB_no HP.out)
    go_enter Try.func16, Try.ntmps16
    go_wp2_with (first | (go_at_call 42; (refine (lyKind_any _ _ _).mono ?_); (rintro e w1 ⟨rfl, rfl⟩); (rw [hk0])) | fail)
    go_ret2
    exact ⟨_, ret_sb7 HG.out.symm, by rw [HF.out]; exact .inl ⟨rfl, rfl⟩, Below.refl _ _⟩
  | true =>
    cases hw : lyW xs with
    | false =>
      have HP := hid (show nlP xs n k = false by unfold nlP; rw [hw]; simp)
      have HF := hid (nlRes_no HP.out)
      have HG := hid (nlB_no HP.out)
      go_enter Try.func16, Try.ntmps16
      go_wp2_with (first | (go_at_call 42; (refine (lyKind_any _ _ _).mono ?_); (rintro e w1 ⟨rfl, rfl⟩); (rw [hk0])) | (go_at_call 37; (refine (lyWord_any _ xs _ HS.out).mono ?_); (rintro e w1 ⟨rfl, rfl⟩); (rw [hw])) | fail)
      go_ret2
      exact ⟨_, ret_sb7 HG.out.symm, by rw [HF.out]; exact .inl ⟨rfl, rfl⟩, Below.refl _ _⟩
    | true =>
      obtain ⟨⟨h1, h2⟩, hs⟩ := lyW_small hw
      obtain ⟨⟨a1, a2⟩, a3, a4⟩ := kindB_iff.1 hk0
      by_cases hln : (xs.length : Int) ≤ n
      case neg =>
        have hln2 : n < (xs.length : Int) := by omega
        have HP := hid (show nlP xs n k = false by unfold nlP; rw [decide_eq_false hln]; simp)
        have HF := hid (nlRes_no HP.out)
        have HG := hid (nlB_no HP.out)
        go_enter Try.func16, Try.ntmps16
        go_wp2_with (first | (go_at_call 42; (refine (lyKind_any _ _ _).mono ?_); (rintro e w1 ⟨rfl, rfl⟩); (rw [hk0])) | (go_at_call 37; (refine (lyWord_any _ xs _ HS.out).mono ?_); (rintro e w1 ⟨rfl, rfl⟩); (rw [hw])) | fail)
        go_ret2
        exact ⟨_, ret_sb7 HG.out.symm, by rw [HF.out]; exact .inl ⟨rfl, rfl⟩, Below.refl _ _⟩
      case pos =>
        have hln2 : ¬ n < (xs.length : Int) := by omega
        cases hal : allB xs k with
        | false =>
          have hal2 : allTo xs.length (fun i => inB (xs.getD i 0) 0 (k - 1)) = false := hal
          have HP := hid (show nlP xs n k = false by unfold nlP; rw [hal]; simp)
          have HF := hid (nlRes_no HP.out)
          have HG := hid (nlB_no HP.out)
          go_enter Try.func16, Try.ntmps16
          go_wp2_with (first | (go_at_call 42; (refine (lyKind_any _ _ _).mono ?_); (rintro e w1 ⟨rfl, rfl⟩); (rw [hk0])) | (go_at_call 37; (refine (lyWord_any _ xs _ HS.out).mono ?_); (rintro e w1 ⟨rfl, rfl⟩); (rw [hw])) | (go_at_call 43; (refine (l1All_any _ xs _ _ _ HS.out).mono ?_); (rintro e w1 ⟨rfl, rfl⟩); (rw [hal2])) | fail)
          go_ret2
          exact ⟨_, ret_sb7 HG.out.symm, by rw [HF.out]; exact .inl ⟨rfl, rfl⟩, Below.refl _ _⟩
        | true =>
          have hal2 : allTo xs.length (fun i => inB (xs.getD i 0) 0 (k - 1)) = true := hal
          cases hly : lynB xs with
          | false =>
            have HP := hid (show nlP xs n k = false by unfold nlP; rw [hly]; simp)
            have HF := hid (nlRes_no HP.out)
            have HG := hid (nlB_no HP.out)
            go_enter Try.func16, Try.ntmps16
            go_wp2_with (first | (go_at_call 42; (refine (lyKind_any _ _ _).mono ?_); (rintro e w1 ⟨rfl, rfl⟩); (rw [hk0])) | (go_at_call 37; (refine (lyWord_any _ xs _ HS.out).mono ?_); (rintro e w1 ⟨rfl, rfl⟩); (rw [hw])) | (go_at_call 43; (refine (l1All_any _ xs _ _ _ HS.out).mono ?_); (rintro e w1 ⟨rfl, rfl⟩); (rw [hal2])) | (go_at_call 38; (refine (lyLyndon_any _ xs _ HS.out h1 h2 hs).mono ?_); (rintro e w1 ⟨rfl, hb1⟩); (rw [hly]); (have HB1 := hid hb1); (clear hb1)) | fail)
            go_ret2
            exact ⟨_, ret_sb7 HG.out.symm, by rw [HF.out]; exact .inl ⟨rfl, rfl⟩, HB1.out⟩
          | true =>
            have HP := hid (show nlP xs n k = true by unfold nlP; rw [hk0, hw, decide_eq_true hln, hal, hly]; rfl)
            have HF := hid (nlRes_yes HP.out)
            obtain ⟨n, k, rfl, rfl, hn1, hn2, hk1, hk2⟩ := kindB_nat hk0
            rw [Int.toNat_natCast, Int.toNat_natCast] at HF
            have HG := hid (show nlB xs (n : Int) (k : Int) = decide (0 < (nxL xs n k).length) by unfold nlB; rw [HP.out, Int.toNat_natCast, Int.toNat_natCast]; rfl)
            have hbl := allB_bel hal
            have HBL := hid hbl
            have hnl := nxL_len xs n k
            obtain ⟨L, hL⟩ : ∃ L, L = (nxL xs n k).length := ⟨_, rfl⟩
            rw [← hL] at HG hnl
            have HL := hid hL
            clear hL hbl hal
            by_cases hz : L = 0
            · subst hz
              have HE := hid (show nxL xs n k = [] from List.eq_nil_of_length_eq_zero HL.out.symm)
              go_enter Try.func16, Try.ntmps16
              go_wp2_with (first
                | (go_at_call 42; (refine (lyKind_any _ _ _).mono ?_); (rintro e w1 ⟨rfl, rfl⟩); (rw [hk0]))
                | (go_at_call 37; (refine (lyWord_any _ xs _ HS.out).mono ?_); (rintro e w1 ⟨rfl, rfl⟩); (rw [hw]))
                | (go_at_call 43; (refine (l1All_any _ xs _ _ _ HS.out).mono ?_); (rintro e w1 ⟨rfl, rfl⟩); (rw [hal2]))
                | (go_at_call 38; (refine (lyLyndon_any _ xs _ HS.out h1 h2 hs).mono ?_); (rintro e w1 ⟨rfl, hb1⟩); (rw [hly]); (have HB1 := hid hb1); (clear hb1))
                | (go_at_call 44; (refine (lyNext_any _ xs n k _ (HS.out.below HB1.out) h1 h2 hn1 hn2 hk1 hk2 HBL.out).mono ?_); (rintro e w2 ⟨g2, c2, rfl, ho2, hb2⟩); (rw [← HL.out]); (have HB2 := hid (Below_chain HB1.out hb2)); (clear ho2 hb2))
                | fail)
              go_ret2
              exact ⟨_, ret_sb7 (by rw [HG.out]; rfl), by rw [HF.out, HE.out]; exact .inl ⟨rfl, rfl⟩, HB2.out⟩
            · have hz2 : ((L : Int) == 0) = false := beq_eq_false_iff_ne.2 (by omega)
              have HZ := hid (show decide (0 < L) = true by simp; omega)
              go_enter Try.func16, Try.ntmps16
              go_wp2_with (first
                | (go_at_call 42; (refine (lyKind_any _ _ _).mono ?_); (rintro e w1 ⟨rfl, rfl⟩); (rw [hk0]))
                | (go_at_call 37; (refine (lyWord_any _ xs _ HS.out).mono ?_); (rintro e w1 ⟨rfl, rfl⟩); (rw [hw]))
                | (go_at_call 43; (refine (l1All_any _ xs _ _ _ HS.out).mono ?_); (rintro e w1 ⟨rfl, rfl⟩); (rw [hal2]))
                | (go_at_call 38; (refine (lyLyndon_any _ xs _ HS.out h1 h2 hs).mono ?_); (rintro e w1 ⟨rfl, hb1⟩); (rw [hly]); (have HB1 := hid hb1); (clear hb1))
                | (go_at_call 44; (have HX := HB2); (refine (lyNext_any _ xs n k _ (HS.out.below HB2.out) h1 h2 hn1 hn2 hk1 hk2 HBL.out).mono ?_); (rintro e w3 ⟨g3, c3, rfl, ho3, hb3⟩); (have HO3 := hid (ho3.e.mono HB2.out.size)); (have HB3 := hid (Below_chain HB2.out hb3)); (clear ho3 hb3))
                | (go_at_call 44; (refine (lyNext_any _ xs n k _ (HS.out.below HB1.out) h1 h2 hn1 hn2 hk1 hk2 HBL.out).mono ?_); (rintro e w2 ⟨g2, c2, rfl, ho2, hb2⟩); (rw [← HL.out]); (have HB2 := hid (Below_chain HB1.out hb2)); (clear ho2 hb2))
                | fail)
              go_ret2
              exact ⟨_, ret_sb7 (by rw [HG.out, HZ.out]), by rw [HF.out]; exact HO3.out, HB3.out⟩
set_option maxHeartbeats 1000000 in
theorem law_impl_NextLyndon (v : Value) (xs : List Int) (n k : Int) (w : World) (h : Sits w v xs) (hl : xs.length ≤ 1048576) (_hwf : ∀ x ∈ xs, (Lit.int .i64 x).wf = true) (_wn : (Lit.int .i64 n).wf = true) (_wk : (Lit.int .i64 k).wf = true) :
    Calls Try.prog 17 #[v, .int .i64 n, .int .i64 k] w fun e w' => ∃ u, e = .returned (.tuple #[u, .bool (nlB xs n k)]) ∧ OwnE w' w.heap.size u (nlRes xs n k) ∧ Below w.heap.size w w' := by
  have HS := hid h
  obtain ⟨b, off, c, rfl, hc1, hm, hb, hc⟩ := h
  clear hc
  cases hi1 : inB n 1 12 with
  | false =>
    have HP := hid (show nlP xs n k = false by unfold nlP; unfold kindB; rw [hi1]; rfl)
    have HF := hid (nlRes_no HP.out)
    have HG := hid (nlB_no HP.out)
    go_enter Try.func17, Try.ntmps17
    go_wp2_with (first | (go_at_call 45; (refine (isWordLength_any _ _).mono ?_); (rintro e w1 ⟨rfl, rfl⟩); (rw [hi1])) | fail)
    go_ret2
    exact ⟨_, ret_sb7 HG.out.symm, by rw [HF.out]; exact .inl ⟨rfl, rfl⟩, Below.refl _ _⟩
  | true =>
    cases hi2 : inB k 1 6 with
    | false =>
      have HP := hid (show nlP xs n k = false by unfold nlP; unfold kindB; rw [hi1, hi2]; rfl)
      have HF := hid (nlRes_no HP.out)
      have HG := hid (nlB_no HP.out)
      go_enter Try.func17, Try.ntmps17
      go_wp2_with (first | (go_at_call 45; (refine (isWordLength_any _ _).mono ?_); (rintro e w1 ⟨rfl, rfl⟩); (rw [hi1])) | (go_at_call 46; (refine (isLetterCount_any _ _).mono ?_); (rintro e w1 ⟨rfl, rfl⟩); (rw [hi2])) | fail)
      go_ret2
      exact ⟨_, ret_sb7 HG.out.symm, by rw [HF.out]; exact .inl ⟨rfl, rfl⟩, Below.refl _ _⟩
    | true =>
      have hk0 : kindB n k = true := by unfold kindB; rw [hi1, hi2]; rfl
      cases hlw : (lyW xs && lynB xs) with
      | false =>
        have HP := hid (show nlP xs n k = false by unfold nlP; cases h1 : lyW xs with
          | false => simp
          | true => rw [h1, Bool.true_and] at hlw; rw [hlw]; simp)
        have HF := hid (nlRes_no HP.out)
        have HG := hid (nlB_no HP.out)
        go_enter Try.func17, Try.ntmps17
        go_wp2_with (first | (go_at_call 45; (refine (isWordLength_any _ _).mono ?_); (rintro e w1 ⟨rfl, rfl⟩); (rw [hi1])) | (go_at_call 46; (refine (isLetterCount_any _ _).mono ?_); (rintro e w1 ⟨rfl, rfl⟩); (rw [hi2])) | (go_at_call 40; (refine (isLyndonWord_any _ xs _ HS.out).mono ?_); (rintro e w1 ⟨rfl, hb1⟩); (rw [hlw]); (have HB1 := hid hb1); (clear hb1)) | fail)
        go_ret2
        exact ⟨_, ret_sb7 HG.out.symm, by rw [HF.out]; exact .inl ⟨rfl, rfl⟩, HB1.out⟩
      | true =>
        have hlw2 := hlw
        simp only [Bool.and_eq_true] at hlw2
        obtain ⟨hw, hly⟩ := hlw2
        obtain ⟨⟨h1, h2⟩, hs⟩ := lyW_small hw
        by_cases hln : (xs.length : Int) ≤ n
        case neg =>
          have hln2 : n < (xs.length : Int) := by omega
          have HP := hid (show nlP xs n k = false by unfold nlP; rw [decide_eq_false hln]; simp)
          have HF := hid (nlRes_no HP.out)
          have HG := hid (nlB_no HP.out)
          go_enter Try.func17, Try.ntmps17
          go_wp2_with (first | (go_at_call 45; (refine (isWordLength_any _ _).mono ?_); (rintro e w1 ⟨rfl, rfl⟩); (rw [hi1])) | (go_at_call 46; (refine (isLetterCount_any _ _).mono ?_); (rintro e w1 ⟨rfl, rfl⟩); (rw [hi2])) | (go_at_call 40; (refine (isLyndonWord_any _ xs _ HS.out).mono ?_); (rintro e w1 ⟨rfl, hb1⟩); (rw [hlw]); (have HB1 := hid hb1); (clear hb1)) | fail)
          go_ret2
          exact ⟨_, ret_sb7 HG.out.symm, by rw [HF.out]; exact .inl ⟨rfl, rfl⟩, HB1.out⟩
        case pos =>
          have hln2 : ¬ n < (xs.length : Int) := by omega
          cases hal : allB xs k with
          | false =>
            have hal2 : belowB xs k = false := hal
            have HP := hid (show nlP xs n k = false by unfold nlP; rw [hal]; simp)
            have HF := hid (nlRes_no HP.out)
            have HG := hid (nlB_no HP.out)
            go_enter Try.func17, Try.ntmps17
            go_wp2_with (first | (go_at_call 45; (refine (isWordLength_any _ _).mono ?_); (rintro e w1 ⟨rfl, rfl⟩); (rw [hi1])) | (go_at_call 46; (refine (isLetterCount_any _ _).mono ?_); (rintro e w1 ⟨rfl, rfl⟩); (rw [hi2])) | (go_at_call 40; (refine (isLyndonWord_any _ xs _ HS.out).mono ?_); (rintro e w1 ⟨rfl, hb1⟩); (rw [hlw]); (have HB1 := hid hb1); (clear hb1)) | (go_at_call 47; (refine (areBelow_any _ xs _ _ (HS.out.below HB1.out).reads).mono ?_); (rintro e w1 ⟨rfl, rfl⟩); (rw [hal2])) | fail)
            go_ret2
            exact ⟨_, ret_sb7 HG.out.symm, by rw [HF.out]; exact .inl ⟨rfl, rfl⟩, HB1.out⟩
          | true =>
            have hal2 : belowB xs k = true := hal
            have HP := hid (show nlP xs n k = true by unfold nlP; rw [hk0, hw, decide_eq_true hln, hal, hly]; rfl)
            have HF := hid (nlRes_yes HP.out)
            obtain ⟨n, k, rfl, rfl, hn1, hn2, hk1, hk2⟩ := kindB_nat hk0
            rw [Int.toNat_natCast, Int.toNat_natCast] at HF
            have HG := hid (show nlB xs (n : Int) (k : Int) = decide (0 < (nxL xs n k).length) by unfold nlB; rw [HP.out, Int.toNat_natCast, Int.toNat_natCast]; rfl)
            have HBL := hid (allB_bel hal)
            clear hal
            go_enter Try.func17, Try.ntmps17
            go_wp2_with (first
              | (go_at_call 45; (refine (isWordLength_any _ _).mono ?_); (rintro e w1 ⟨rfl, rfl⟩); (rw [hi1]))
              | (go_at_call 46; (refine (isLetterCount_any _ _).mono ?_); (rintro e w1 ⟨rfl, rfl⟩); (rw [hi2]))
              | (go_at_call 40; (refine (isLyndonWord_any _ xs _ HS.out).mono ?_); (rintro e w1 ⟨rfl, hb1⟩); (rw [hlw]); (have HB1 := hid hb1); (clear hb1))
              | (go_at_call 47; (refine (areBelow_any _ xs _ _ (HS.out.below HB1.out).reads).mono ?_); (rintro e w1 ⟨rfl, rfl⟩); (rw [hal2]))
              | (go_at_call 48; (refine (nextLyndon_any _ xs n k _ (HS.out.below HB1.out) h1 h2 hn1 hn2 hk1 hk2 HBL.out).mono ?_); (rintro e w2 ⟨u2, rfl, ho2, hb2⟩); (obtain ⟨ao2, c2, rfl, _⟩ := ho2.shp2); (have HO2 := hid (ho2.mono HB1.out.size)); (have HB2 := hid (Below_chain HB1.out hb2)); (clear ho2 hb2))
              | fail)
            go_ret2
            exact ⟨_, ret_sb7 HG.out.symm, by rw [HF.out]; exact HO2.out, HB2.out⟩
end Go.Proofs.Ytjghjlhjeibfoab
