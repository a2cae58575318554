/- Contracts: impl.RevolvingRank and impl.NextRevolving. Conditions: the slice reads as a list. -/
import Derived.Test.YtijjdidljoicfaaRvA
namespace Go.Proofs.Ytijjdidljoicfaa
open Go.RowKit
set_option linter.unusedVariables false

theorem rSum_range {xs : List Int} {n : Nat} (hn : n ≤ 12) (hl : xs.length ≤ n) (h : Rises n xs) : ∀ k, k ≤ xs.length → 0 ≤ rSum xs k ∧ rSum xs k < 2000 := by
  intro k hk
  have hr : Rises n (xs.take k) := by
    refine ⟨fun i hi => ?_, fun i hi => ?_⟩
    · have hi' : i < xs.length := by simp at hi; omega
      have h1 := h.1 i hi'
      rw [getD_at hi'] at h1
      rw [getD_at hi]
      simpa using h1
    · have hi' : i + 1 < xs.length := by simp at hi; omega
      have h1 := h.2 i hi'
      rw [getD_at (by omega), getD_at hi'] at h1
      rw [getD_at (by omega), getD_at hi]
      simpa using h1
  have hlk : (xs.take k).length = k := by simp; omega
  have h2 := place_rev (xs := xs.take k) hn (by rw [hlk]; omega) hr
  rw [hlk] at h2
  have h3 : rSum (xs.take k) k = rSum xs k := rSum_congr k (fun i hi => by
    rw [getD_at (by omega), getD_at (by omega)]; simp)
  rw [h3] at h2
  have h4 := placeIn_lt (xs.take k) (revL n k)
  have h5 := rev_mem n hn (xs.take k) (by rw [hlk]; omega) hr
  rw [hlk] at h5
  have h6 := revL_len n hn k (by omega)
  have h7 := binom_le n (by omega) k (by omega)
  have h8 : 0 ≤ placeIn (xs.take k) (revL n k) := by
    obtain ⟨j, hj, e⟩ := List.mem_iff_getElem.1 h5
    have h9 := rSum_rev n hn k (by omega) j hj
    have h10 : rSum (xs.take k) k = j := by rw [← e]; exact h9
    rw [h2, ← h3, h10]; omega
  omega
theorem rr_yes {n : Int} {xs : List Int} (h : combB n xs = true) : rrV n xs = rSum xs xs.length := by
  obtain ⟨N, rfl, hN, hK⟩ := comb_nat h
  rw [rrV, if_pos h]
  exact place_rev hN hK (by have := (Rises_comb h).1; rwa [Int.toNat_natCast] at this)
theorem rr_no {n : Int} {xs : List Int} (h : combB n xs = false) : rrV n xs = 0 := by rw [rrV, if_neg (by rw [h]; simp)]
set_option maxHeartbeats 800000 in
theorem impl_RevolvingRank_any (n : Int) (v : Value) (xs : List Int) (w : World) (_wn : (Lit.int .i64 n).wf = true) (h : Sits w v xs) (hl : xs.length ≤ 1048576) (_hwf : ∀ x ∈ xs, (Lit.int .i64 x).wf = true) :
    Calls Try.prog 29 #[.int .i64 n, v] w fun e w' => e = .returned (.tuple #[.int .i64 (rrV n xs), .bool (combB n xs)]) ∧ Below w.heap.size w w' := by
  have HR := hid h.reads
  have HS := hid h
  obtain ⟨b, off, c, rfl, hc1, hm, hb, hc⟩ := h
  clear hc
  by_cases hp : combB n xs = true
  · obtain ⟨N, rfl, hN, hK⟩ := comb_nat hp
    have hri : Rises N xs := by have := (Rises_comb hp).1; rwa [Int.toNat_natCast] at this
    have HP := hid (rr_yes hp)
    have HP2 := hid hp
    have HX := hid hri
    have HRG := hid (rSum_range hN hK hri)
    clear hri hp _wn _hwf
    go_enter Try.func29, Try.ntmps29
    go_wp2_with fail
    refine (impl_IsCombination_any _ _ xs _ HR.out).mono ?_
    rintro e W1 ⟨rfl, hq⟩
    rw [HP2.out]
    have hb1 := Drew.below hq w.heap.size
    have hs1 := HS.out.below hb1
    have HB1 := hid hb1
    obtain ⟨b', off', c', e1, _, _, _, hcW⟩ := hs1
    simp only [Value.slice.injEq, Option.some.injEq, Addr.mk.injEq, and_true, true_and] at e1
    obtain ⟨⟨rfl, rfl⟩, rfl⟩ := e1
    have HC := hid hcW
    clear hcW hq hb1
    go_wp2_with fail
    go_loop [6, 7, 8, 15] (fun rv _ _ i => ∃ k : Nat, k ≤ xs.length ∧ i = .int .i64 k ∧ rv = .int .i64 (rSum xs k)) (fun _ _ _ i => xs.length - (intOf i).toNat)
    case atStart => exact ⟨0, Nat.zero_le _, rfl, rfl⟩
    case round =>
      obtain ⟨k, hk, rfl, rfl⟩ := hrel
      have hrg := HRG.out k hk
      by_cases hlt : k < xs.length
      · have hcx := HC.out k hlt
        have hxr := HX.out.1 k hlt
        have HG := hid (show xs.getD k 0 = xs[k] from getD_at hlt)
        have hrg2 := HRG.out (k + 1) (by omega)
        have HN := hid (show rSum xs (k + 1) = (binom ((xs.getD k 0).toNat + 1) (k + 1) : Int) - 1 - rSum xs k from rfl)
        rw [HG.out] at hxr HN
        obtain ⟨X, hX⟩ : ∃ X : Nat, xs[k] = X := ⟨xs[k].toNat, by omega⟩
        rw [hX] at hcx hxr HN
        rw [Int.toNat_natCast] at HN
        have hX12 : X < 12 := by omega
        have hbn : binom (X + 1) (k + 1) ≤ 924 := binom_le _ (by omega) _ (by omega)
        have HCH : Hid (chooseZ ((X : Int) + 1) ((k : Int) + 1) = binom (X + 1) (k + 1)) := by
          show chooseZ ((X : Int) + 1) ((k : Int) + 1) = binom (X + 1) (k + 1)
          rw [show ((k : Int) + 1) = ((k + 1 : Nat) : Int) by omega, show ((X : Int) + 1) = ((X + 1 : Nat) : Int) by omega]
          exact chooseZ_nat _ _ (by omega) (by omega)
        obtain ⟨S, hS⟩ : ∃ S, S = rSum xs k := ⟨_, rfl⟩
        rw [← hS] at HN hrg ⊢
        rw [HN.out] at hrg2
        obtain ⟨B, hB⟩ : ∃ B, B = binom (X + 1) (k + 1) := ⟨_, rfl⟩
        rw [← hB] at hbn HCH HN hrg2
        clear hB hS hX
        go_wp2_with (first | (go_at_call 66; refine (choose_any _ _ _ (by omega) (by omega)).mono ?_; rintro e w' ⟨rfl, rfl⟩; rw [HCH.out]) | fail)
        go_round
        case rel => exact ⟨k + 1, by omega, by go_num, by rw [HN.out]⟩
        case measure => simp [intOf]; omega
      · obtain rfl : k = xs.length := by omega
        go_wp2_with fail
        go_ret2
        exact ⟨ret_nb2 HP.out.symm HP2.out.symm, HB1.out⟩
  · have hp : combB n xs = false := by simpa using hp
    have HP := hid (rr_no hp)
    have HP2 := hid hp
    clear hp
    go_enter Try.func29, Try.ntmps29
    go_wp2_with (first | (go_at_call 69; refine (impl_IsCombination_any _ _ xs _ HR.out).mono ?_; rintro e W1 ⟨rfl, hq⟩; rw [HP2.out]; have HQ := hid (Drew.below hq w.heap.size); clear hq) | fail)
    go_ret2
    exact ⟨ret_nb2 HP.out.symm HP2.out.symm, HQ.out⟩
theorem nrv_is {n : Int} {xs : List Int} (h : combB n xs = true) : nrvB n xs = raB n xs.length (rrV n xs + 1) ∧ nrvRes n xs = raRes n xs.length (rrV n xs + 1) := by
  obtain ⟨N, rfl, hN, hK⟩ := comb_nat h
  have hs : szB (N : Int) (xs.length : Int) = true := by rw [szB, Bool.and_eq_true, inB_iff, inB_iff]; omega
  have hr : rrV (N : Int) xs = placeIn xs (revL N xs.length) := by rw [rrV, if_pos h]; rfl
  refine ⟨?_, ?_⟩
  · rw [nrvB, raB, h, hs, hr]; rfl
  · rw [nrvRes, raRes, if_pos h, if_pos hs, hr]; rfl
theorem impl_NextRevolving_any (n : Int) (v : Value) (xs : List Int) (w : World) (_wn : (Lit.int .i64 n).wf = true) (h : Sits w v xs) (hl : xs.length ≤ 1048576) (_hwf : ∀ x ∈ xs, (Lit.int .i64 x).wf = true) :
    Calls Try.prog 31 #[.int .i64 n, v] w fun e w' => ∃ u, e = .returned (.tuple #[u, .bool (nrvB n xs)]) ∧ Own w' w.heap.size u (nrvRes n xs) ∧ Below w.heap.size w w' := by
  have HS := hid h
  obtain ⟨b, off, c, rfl, hc1, hm, hb, hc⟩ := h
  clear hc
  have HWN := hid _wn
  have HWF := hid _hwf
  clear _wn _hwf
  cases hp : combB n xs with
  | true =>
    have HP := hid hp
    have HN := hid (nrv_is hp)
    obtain ⟨N, hNn, hN, hK⟩ := comb_nat hp
    have hrg := rSum_range hN hK (by have := (Rises_comb hp).1; rwa [hNn, Int.toNat_natCast] at this) xs.length (Nat.le_refl _)
    rw [← rr_yes hp] at hrg
    obtain ⟨R, hR⟩ : ∃ R, R = rrV n xs := ⟨_, rfl⟩
    have HR := hid hR
    rw [← hR] at hrg HN
    have hww : IntKind.i64.wrap (R + 1) = R + 1 := IntWalk.i64_in _ (by omega)
    have HWL := hid (show (Lit.int .i64 (xs.length : Int)).wf = true from WalkArith.wf_i64 (by omega))
    have HWR := hid (show (Lit.int .i64 (R + 1)).wf = true from WalkArith.wf_i64 (by omega))
    clear hp hR hNn
    go_enter Try.func31, Try.ntmps31
    go_wp2_with (first
      | (go_at_call 29; refine (impl_RevolvingRank_any _ _ xs _ HWN.out HS.out hl HWF.out).mono ?_; rintro e w1 ⟨rfl, hb1⟩; rw [HP.out, ← HR.out]; have HB1 := hid hb1; clear hb1)
      | (go_at_call 27; refine (impl_RevolvingAt_any _ _ _ _ HWN.out HWL.out HWR.out).mono ?_; rintro e w2 ⟨u, rfl, ho2, hb2⟩; have HO2 := hid (ho2.mono HB1.out.size); have HB2 := hid (Below_chain HB1.out hb2); clear ho2 hb2)
      | fail)
    go_ret2
    exact ⟨_, ret_sb6 HN.out.1.symm, by rw [HN.out.2]; exact HO2.out, HB2.out⟩
  | false =>
    have HP := hid hp
    have HB := hid (show nrvB n xs = false by rw [nrvB, hp]; rfl)
    have HR := hid (show nrvRes n xs = [] by rw [nrvRes, if_neg (by rw [hp]; simp)])
    clear hp
    go_enter Try.func31, Try.ntmps31
    go_wp2_with (first
      | (go_at_call 29; refine (impl_RevolvingRank_any _ _ xs _ HWN.out HS.out hl HWF.out).mono ?_; rintro e w1 ⟨rfl, hb1⟩; rw [HP.out]; have HB1 := hid hb1; clear hb1)
      | fail)
    go_ret2
    exact ⟨_, ret_sb6 HB.out.symm, by rw [HR.out]; exact Own.nil _ _, HB1.out⟩
end Go.Proofs.Ytijjdidljoicfaa
