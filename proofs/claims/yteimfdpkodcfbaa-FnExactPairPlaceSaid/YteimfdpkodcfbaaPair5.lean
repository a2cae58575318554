/- Contracts: both PairPlace functions. Conditions: slices that are not nil and read as lists. -/
import Derived.Test.YteimfdpkodcfbaaPair4
import Derived.Test.YteimfdpkodcfbaaIdxP
namespace Go.Proofs.Yteimfdpkodcfbaa
open Go.RowKit Go.Maps
set_option linter.unusedVariables false
set_option maxRecDepth 4000

theorem ppO_no {n : Int} {xs : List Int} {a b : Int} (h : ipR n xs = false) : ppO n xs a b = false := by unfold ppO; rw [h]; rfl
theorem ppO_yes {n : Int} {xs : List Int} {a b : Int} (h : ipR n xs = true) : ppO n xs a b = okP n [a, b] := by unfold ppO; rw [h]; rfl
theorem ppR_no {n : Int} {xs : List Int} {a b : Int} (h : ppO n xs a b = false) : ppR n xs a b = 0 := by unfold ppR; rw [if_neg (by rw [h]; simp)]
theorem ppR_yes {n : Int} {xs : List Int} {a b : Int} (h : ppO n xs a b = true) : ppR n xs a b = plcP xs a b := by unfold ppR; rw [if_pos h]
theorem samP_dec {p q a b : Int} : samP p q a b = ((p == a && q == b) || (p == b && q == a)) := rfl
theorem fst_no {f : Nat → Bool} {k : Nat} (h : ∀ i, i < k → f i = false) : fstN f k = k := by
  induction k with
  | zero => rfl
  | succ k ih =>
    rw [fstN, ih (fun i hi => h i (by omega)), if_neg (by omega), h k (by omega)]
    simp
theorem fst_yes {f : Nat → Bool} {k K : Nat} (h : ∀ i, i < k → f i = false) (hk : k < K) (hf : f k = true) : fstN f K = k := fstN_is hk hf h
set_option maxHeartbeats 2000000 in
theorem spec_PairPlace_any (n : Int) (v : Value) (xs : List Int) (a b : Int) (w : World) (_hn : (Lit.int .i64 n).wf = true) (h : Sits w v xs) (_hl : xs.length ≤ 1048576) (_hwf : ∀ n ∈ xs, (Lit.int .i64 n).wf = true) (_ha : (Lit.int .i64 a).wf = true) (_hb : (Lit.int .i64 b).wf = true) :
    Calls Try.prog 38 #[.int .i64 n, v, .int .i64 a, .int .i64 b] w fun e w' => e = .returned (.tuple #[.int .i64 (ppR n xs a b), .bool (ppO n xs a b)]) ∧ Below w.heap.size w w' := by
  have HS := hid h
  have HNO := hid (fun (hip : ipR n xs = false) => (show ppR n xs a b = 0 ∧ ppO n xs a b = false from ⟨ppR_no (ppO_no hip), ppO_no hip⟩))
  cases hn : inB n 2 11 with
  | false =>
    have HK := hid (HNO.out (ipR_no (prOk_l (xs := xs) hn)))
    clear h
    go_enter Try.func38, Try.ntmps38
    go_wp2_with (first
      | (go_at_call 85; (refine (suPairSize_any _ _).mono ?_); (rintro e w' ⟨rfl, rfl⟩); (rw [hn]))
      | fail)
    go_ret2
    exact ⟨ret_nbI HK.out.1.symm HK.out.2.symm, Below.refl _ _⟩
  | true =>
    have h0 := inB_iff.1 hn
    obtain ⟨m, rfl⟩ : ∃ m : Nat, n = (m : Int) := ⟨n.toNat, by omega⟩
    have HN := hid hn
    cases hw : suWB xs with
    | false =>
      have HK := hid (HNO.out (ipR_no ((prOk_r (xs := xs) hn).trans hw)))
      clear h
      go_enter Try.func38, Try.ntmps38
      go_wp2_with (first
        | (go_at_call 85; (refine (suPairSize_any _ _).mono ?_); (rintro e w' ⟨rfl, rfl⟩); (rw [HN.out]))
        | (go_at_call 86; (refine (suWord_any _ xs _ HS.out).mono ?_); (rintro e w' ⟨rfl, rfl⟩); (rw [hw]))
        | fail)
      go_ret2
      exact ⟨ret_nbI HK.out.1.symm HK.out.2.symm, Below.refl _ _⟩
    | true =>
      have hpo := (prOk_r (xs := xs) hn).trans hw
      have hl2 := suWB_len hw
      have HIP := hid (ipR_yes hpo)
      cases hpr : prB m xs with
      | false =>
        have HK := hid (HNO.out (HIP.out.trans hpr))
        clear h
        go_enter Try.func38, Try.ntmps38
        go_wp2_with (first
          | (go_at_call 85; (refine (suPairSize_any _ _).mono ?_); (rintro e w' ⟨rfl, rfl⟩); (rw [HN.out]))
          | (go_at_call 86; (refine (suWord_any _ xs _ HS.out).mono ?_); (rintro e w' ⟨rfl, rfl⟩); (rw [hw]))
          | (go_at_call 87; (refine (suPairs_any m _ xs _ HN.out HS.out hl2).mono ?_); (rintro e w1 ⟨rfl, hb1⟩); (rw [hpr]); (have HB1 := hid hb1); (clear hb1))
          | fail)
        go_ret2
        exact ⟨ret_nbI HK.out.1.symm HK.out.2.symm, HB1.out⟩
      | true =>
        have HPR := hid hpr
        have HOY := hid (ppO_yes (a := a) (b := b) (HIP.out.trans hpr))
        obtain ⟨bb, off, c, rfl, hc1, hcm, hbb, hc⟩ := h
        clear hc
        go_enter Try.func38, Try.ntmps38
        go_wp2_with (first
          | (go_at_call 85; (refine (suPairSize_any _ _).mono ?_); (rintro e w' ⟨rfl, rfl⟩); (rw [HN.out]))
          | (go_at_call 86; (refine (suWord_any _ xs _ HS.out).mono ?_); (rintro e w' ⟨rfl, rfl⟩); (rw [hw]))
          | (go_at_call 87; (refine (suPairs_any m _ xs _ HN.out HS.out hl2).mono ?_); (rintro e w1 ⟨rfl, hb1⟩); (rw [HPR.out]); (have HB1 := hid hb1); (clear hb1))
          | fail)
        go_loopw [10, 11, 28] (fun _ _ i wr => ∃ k : Nat, k ≤ xs.length ∧ i = .int .i64 (k : Int) ∧ (∀ j, j < k → samP (xs.getD j 0) (nxW xs j) a b = false) ∧ Below w.heap.size w wr) (fun _ _ i _ => xs.length - (intOf i).toNat)
        case atStart => exact ⟨0, Nat.zero_le _, rfl, fun j hj => by omega, HB1.out⟩
        case round =>
          obtain ⟨k, hk, rfl, hno, hbel⟩ := hrel
          have HNF := hid hno
          have HB := hid hbel
          have HSK := hid (HS.out.below hbel)
          clear hno hbel
          by_cases hlt : k < xs.length
          · have h1x : 1 ≤ xs.length := by omega
            have hl6 : xs.length ≤ 1048576 := by omega
            have hk6 : k ≤ 1048576 := by omega
            obtain ⟨p, hp⟩ : ∃ p, xs.getD k 0 = p := ⟨_, rfl⟩
            obtain ⟨q, hq⟩ : ∃ q, nxW xs k = q := ⟨_, rfl⟩
            have HE1 := hid hp
            have HE2 := hid hq
            clear hp hq
            cases hs1 : (p == a) <;> cases hs2 : (q == b) <;> cases hs3 : (p == b) <;> cases hs4 : (q == a)
            all_goals
              have HSM := hid (show samP (xs.getD k 0) (nxW xs k) a b = ((p == a && q == b) || (p == b && q == a)) by rw [HE1.out, HE2.out]; rfl)
              rw [hs1, hs2, hs3, hs4] at HSM
              go_wp2_with (first
                | (go_at_call 94; (refine (suRound_any _ xs k 2 _ HSK.out h1x hl6 hk6 (by omega)).mono ?_); (rintro e w1 ⟨u, rfl, ho, hb1⟩); (obtain ⟨g5, c5, rfl, hc51, hc52, hg1, hg2, x0, x1⟩ := round_two ho hlt HE1.out HE2.out); (have HB2 := hid (Below_chain HB.out hb1)); (clear ho hb1))
                | fail)
              first
                | (go_roundw
                   case rel => exact ⟨k + 1, by omega, by go_num, fun j hj => by
                     by_cases e : j = k
                     · rw [e]; exact HSM.out
                     · exact HNF.out j (by omega), HB2.out⟩
                   case measure => simp [intOf]; omega)
                | (have HOK := hid (show okP (m : Int) [a, b] = true by
                     cases hok : okP (m : Int) [a, b] with
                     | true => rfl
                     | false =>
                       have := plcP_no HN.out HPR.out hok k hlt
                       rw [HSM.out] at this
                       cases this)
                   have HPL := hid (show plcP xs a b = k from fst_yes HNF.out hlt HSM.out)
                   go_ret2
                   exact ⟨ret_nbI (by rw [ppR_yes (HOY.out.trans HOK.out), HPL.out]) (HOY.out.trans HOK.out).symm, HB2.out⟩)
          · obtain rfl : k = xs.length := by omega
            have HOK := hid (show okP (m : Int) [a, b] = false by
              cases hok : okP (m : Int) [a, b] with
              | false => rfl
              | true =>
                have h5 := (plcP_is HN.out HPR.out hok).1
                unfold plcP at h5
                rw [fst_no HNF.out] at h5
                omega)
            go_wp2_with fail
            go_ret2
            exact ⟨ret_nbI (ppR_no (HOY.out.trans HOK.out)).symm (HOY.out.trans HOK.out).symm, HB.out⟩
theorem impl_PairPlace_any (n : Int) (v : Value) (xs : List Int) (a b : Int) (w : World) (_hn : (Lit.int .i64 n).wf = true) (h : Sits w v xs) (_hl : xs.length ≤ 1048576) (_hwf : ∀ n ∈ xs, (Lit.int .i64 n).wf = true) (_ha : (Lit.int .i64 a).wf = true) (_hb : (Lit.int .i64 b).wf = true) :
    Calls Try.prog 39 #[.int .i64 n, v, .int .i64 a, .int .i64 b] w fun e w' => e = .returned (.tuple #[.int .i64 (ppR n xs a b), .bool (ppO n xs a b)]) ∧ Below w.heap.size w w' := by
  have HS := hid h
  have HWF := hid _hwf
  have HNW := hid _hn
  have HWA := hid _ha
  have HWB := hid _hb
  clear h _hwf
  have HNO := hid (fun (hip : ipR n xs = false) => (show ppR n xs a b = 0 ∧ ppO n xs a b = false from ⟨ppR_no (ppO_no hip), ppO_no hip⟩))
  cases hn : inB n 2 11 with
  | false =>
    have HK := hid (HNO.out (ipR_no (prOk_l (xs := xs) hn)))
    go_enter Try.func39, Try.ntmps39
    go_wp2_with (first
      | (go_at_call 88; (refine (isPairSize_any _ _).mono ?_); (rintro e w' ⟨rfl, rfl⟩); (rw [hn]))
      | fail)
    go_ret2
    exact ⟨ret_nbI HK.out.1.symm HK.out.2.symm, Below.refl _ _⟩
  | true =>
    have h0 := inB_iff.1 hn
    obtain ⟨m, rfl⟩ : ∃ m : Nat, n = (m : Int) := ⟨n.toNat, by omega⟩
    have HN := hid hn
    cases hw : suWB xs with
    | false =>
      have HK := hid (HNO.out (ipR_no ((prOk_r (xs := xs) hn).trans hw)))
      go_enter Try.func39, Try.ntmps39
      go_wp2_with (first
        | (go_at_call 88; (refine (isPairSize_any _ _).mono ?_); (rintro e w' ⟨rfl, rfl⟩); (rw [HN.out]))
        | (go_at_call 89; (refine (isSuperWord_any _ xs _ HS.out).mono ?_); (rintro e w' ⟨rfl, rfl⟩); (rw [hw]))
        | fail)
      go_ret2
      exact ⟨ret_nbI HK.out.1.symm HK.out.2.symm, Below.refl _ _⟩
    | true =>
      have HPO := hid ((prOk_r (xs := xs) hn).trans hw)
      have hl2 := suWB_len hw
      obtain ⟨N, hN⟩ : ∃ N, N = m * (m - 1) / 2 := ⟨_, rfl⟩
      have HNN := hid hN
      have hc2 := (chooseZ_two m (by omega) (by omega)).2
      rw [← hN] at hc2
      have HN1 := hid hc2.1
      have HN2 := hid (show N ≤ 200 by omega)
      have HIP := hid (ipR_yes HPO.out)
      have HFI := hid (show (decide (xs.length = N) && lyB (rkP m) (okP m) (winL (upTo N) 2) xs) = true → okP (m : Int) [a, b] = true → plcP xs a b < N ∧ rkT (rkP m) (winL (upTo N) 2) xs (plcP xs a b) = rkP m [a, b] from fun h1 h2 => by
        rw [prB_ly HN.out hN] at h1
        have h3 := plcP_is HN.out h1 h2
        have hle : xs.length = N := (prB_size h1).trans hN.symm
        rw [hle] at h3
        refine ⟨h3.1, ?_⟩
        unfold rkT
        rw [win_at9 h3.1, pk_win hle.symm HN1.out h3.1]
        exact h3.2)
      have HE := hid (show (decide (xs.length = N) && lyB (rkP m) (okP m) (winL (upTo N) 2) xs && okP (m : Int) [a, b]) = ppO m xs a b by rw [prB_ly HN.out hN]; unfold ppO; rw [HIP.out])
      have HE2 := hid (show ixR (ppO m xs a b) (plcP xs a b) = ppR m xs a b from rfl)
      clear hc2 hN
      have HWL := hid (show ∀ w1 : World, Sits (w1.alloc (.cells #[.int .i64 a, .int .i64 b] 3)) (.slice (some ⟨w1.heap.size, 0, none⟩) 2 2) [a, b] from fun w1 => (Own_lit2x w1 a b).sits)
      have HWW := hid (fun (w2 W : World) (g5 b0 : Nat) (hc : w2.cell? ⟨b0, 0, none⟩ = some (.int .i64 (m : Int))) (hlt : b0 < w2.heap.size) (hsi : Sits w2 (.slice (some ⟨g5, 0, none⟩) 2 2) [a, b]) (hb : Below w2.heap.size w2 W) => pairRank_any _ _ _ a b W HNW.out ((hb.cell (by exact hlt)).trans hc) (Nat.lt_of_lt_of_le hlt hb.size) (hsi.below hb) HWA.out HWB.out)
      go_enter Try.func39, Try.ntmps39
      go_wp2_with (first
        | (go_at_call 88; (refine (isPairSize_any _ _).mono ?_); (rintro e w' ⟨rfl, rfl⟩); (rw [HN.out]))
        | (go_at_call 89; (refine (isSuperWord_any _ xs _ HS.out).mono ?_); (rintro e w' ⟨rfl, rfl⟩); (rw [hw]))
        | (go_at_call 95; (have hA1 := (Below.refl w1.heap.size w1).alloc (Nat.le_refl _) (.cells #[.int .i64 a, .int .i64 b] 3)); (have hcA := (hA1.cell (p := ⟨w.heap.size, 0, none⟩) (by exact HSZ.out)).trans HC1.out); (have hsA := Nat.lt_of_lt_of_le HSZ.out hA1.size);
            (refine (idx_P (rkP m) (okP m) g N (plcP xs a b) _ _ (winL (upTo N) 2) xs [a, b] ⟨w.heap.size, 0, none⟩ _ (by rw [winL_len, upTo_length]) (HL1.out.below hA1) ((HS.out.below HB1.out).below hA1) HN2.out HN1.out (win_placed (by omega) (by omega) HN1.out) (fun l hl => rkP_wf HN.out _) hl2 (pair_clo HWF.out HNW.out hcA hsA) (fun W hb => HWW.out _ W _ _ hcA hsA (HWL.out w1) hb) (rkP_wf HN.out _) HFI.out).mono ?_);
            (rintro e w2 ⟨rfl, hb2⟩); (rw [HE.out, HE2.out]); (have HB2 := hid (Below_chain HB1.out (Below_chain hA1 hb2))); (clear hb2 hA1 hcA hsA))
        | (go_at_call 90; (refine (pairsOf_any m N _ HN.out HNN.out).mono ?_); (rintro e w1 ⟨g, rfl, hl1, hc1, hs1, hb1⟩); (have HL1 := hid hl1); (have HC1 := hid hc1); (have HSZ := hid hs1); (have HB1 := hid hb1); (clear hl1 hc1 hs1 hb1))
        | fail)
      go_ret2
      exact ⟨rfl, HB2.out⟩
end Go.Proofs.Yteimfdpkodcfbaa
