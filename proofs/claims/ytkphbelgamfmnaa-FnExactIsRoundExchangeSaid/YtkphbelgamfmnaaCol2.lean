/- Contracts: both ColexRank functions. Conditions: the slice reads as a list of at most 2^20 numbers. -/
import Derived.Test.YtkphbelgamfmnaaCol1
import Derived.Test.YtkphbelgamfmnaaCRank
namespace Go.Proofs.Ytkphbelgamfmnaa
open Go.RowKit
set_option linter.unusedVariables false

def colRes (xs : List Int) : Int := if combB 12 xs = true then (cSum xs xs.length : Int) else 0
theorem colRes_yes {xs : List Int} (h : combB 12 xs = true) : colRes xs = cSum xs xs.length := by unfold colRes; rw [if_pos h]
theorem colRes_no {xs : List Int} (h : combB 12 xs = false) : colRes xs = 0 := by unfold colRes; rw [if_neg (by rw [h]; simp)]
theorem place_col12 {xs : List Int} (h : combB 12 xs = true) : placeIn xs (colL 12 xs.length) = cSum xs xs.length := place_col 12 xs (Rises_comb h).1
theorem cSum_le {xs : List Int} (h : combB 12 xs = true) : cSum xs xs.length ≤ 2000 := by
  have h1 := placeIn_lt xs (colL 12 xs.length)
  rw [place_col12 h] at h1
  have h2 := colL_bound 12 (Nat.le_refl _) xs.length (Rises_comb h).2.1
  omega
set_option maxHeartbeats 800000 in
theorem impl_ColexRank_any (v : Value) (xs : List Int) (w : World) (h : Sits w v xs) (hl : xs.length ≤ 1048576) (_hwf : ∀ x ∈ xs, (Lit.int .i64 x).wf = true) :
    Calls Try.prog 67 #[v] w fun e w' => e = .returned (.tuple #[.int .i64 (colRes xs), .bool (combB 12 xs)]) ∧ Below w.heap.size w w' := by
  have HR := hid h.reads
  have HS := hid h
  obtain ⟨b, off, c, rfl, hc1, hm, hb, hc⟩ := h
  clear hc
  by_cases hp : combB 12 xs = true
  · obtain ⟨c1, c2, _, _⟩ := Rises_comb hp
    have HP := hid (colRes_yes hp)
    have HP2 := hid hp
    have HX := hid c1.1
    have htot := cSum_le hp
    clear c1
    go_enter Try.func67, Try.ntmps67
    go_wp2_with fail
    refine (impl_IsCombination_any _ _ xs _ HR.out).mono ?_
    rintro e W1 ⟨rfl, hq⟩
    have hb1 := Drew.below hq w.heap.size
    have hs1 := HS.out.below hb1
    have HB1 := hid hb1
    obtain ⟨b', off', c', e1, _, _, _, hcW⟩ := hs1
    simp only [Value.slice.injEq, Option.some.injEq, Addr.mk.injEq, and_true, true_and] at e1
    obtain ⟨⟨rfl, rfl⟩, rfl⟩ := e1
    have HC := hid hcW
    clear hcW hq hb1
    go_wp2_with fail
    go_loop [4, 5, 6, 12] (fun rv _ _ i => ∃ k : Nat, k ≤ xs.length ∧ i = .int .i64 k ∧ rv = .int .i64 ((cSum xs k : Nat) : Int)) (fun _ _ _ i => xs.length - (intOf i).toNat)
    case atStart => exact ⟨0, Nat.zero_le _, rfl, rfl⟩
    case round =>
      obtain ⟨k, hk, rfl, rfl⟩ := hrel
      have hmo := cSum_mono xs hk
      obtain ⟨S, hS⟩ : ∃ S, S = cSum xs k := ⟨_, rfl⟩
      rw [← hS] at hmo ⊢
      have hS2 : S ≤ 2000 := by omega
      have HSS := hid hS
      clear hS hmo
      by_cases hlt : k < xs.length
      · have hcx := HC.out k hlt
        have hxr := HX.out k hlt
        have HG := hid (show xs.getD k 0 = xs[k] by simp [List.getD_eq_getElem?_getD, hlt])
        rw [HG.out] at hxr
        obtain ⟨X, hX⟩ : ∃ X : Nat, xs[k] = X := ⟨xs[k].toNat, by omega⟩
        rw [hX] at hcx hxr
        have HXX := hid hX
        have hX12 : X < 12 := by omega
        clear hX hxr
        have hbn : binom X (k + 1) ≤ 924 := binom_le _ (by omega) _ (by omega)
        have HCH : Hid (chooseZ (X : Int) ((k : Int) + 1) = binom X (k + 1)) := by
          show chooseZ (X : Int) ((k : Int) + 1) = binom X (k + 1)
          rw [show ((k : Int) + 1) = ((k + 1 : Nat) : Int) by omega]
          exact chooseZ_nat _ _ (by omega) (by omega)
        obtain ⟨B, hB⟩ : ∃ B, B = binom X (k + 1) := ⟨_, rfl⟩
        rw [← hB] at hbn HCH
        have HBB := hid hB
        clear hB
        go_wp2_with (first | (go_at_call 68; refine (choose_any _ _ _ (by omega) (by omega)).mono ?_; rintro e w' ⟨rfl, rfl⟩; rw [HCH.out]) | fail)
        go_round
        case rel => exact ⟨k + 1, by omega, by go_num, by rw [cSum, HG.out, HXX.out, Int.toNat_natCast, ← HBB.out, ← HSS.out]; go_num⟩
        case measure => simp [intOf]; omega
      · obtain rfl : k = xs.length := by omega
        go_wp2_with fail
        go_ret2
        exact ⟨ret_nb5 (by rw [HP.out, HSS.out]) (by first | rfl | exact HP2.out.symm), HB1.out⟩
  · have hp : combB 12 xs = false := by simpa using hp
    have HP := hid (colRes_no hp)
    have HP2 := hid hp
    go_enter Try.func67, Try.ntmps67
    go_wp2_with (first | (go_at_call 77; refine (impl_IsCombination_any _ _ xs _ HR.out).mono ?_; rintro e W1 ⟨rfl, hq⟩; have HQ := hid (Drew.below hq w.heap.size); clear hq) | fail)
    go_ret2
    exact ⟨ret_nb5 HP.out.symm (by first | rfl | exact HP2.out.symm), HQ.out⟩
end Go.Proofs.Ytkphbelgamfmnaa
