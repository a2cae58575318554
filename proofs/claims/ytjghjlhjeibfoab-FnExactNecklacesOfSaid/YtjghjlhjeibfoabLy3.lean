/- Contracts: least rotations (lyLeast, leastRotation), root lengths (lyRoot, rootLength), necklaces and Lyndon words (lyNecklace, isNecklace, lyLyndon, isLyndon, isLyndonWord). Conditions: slices that are not nil and read as lists of 1 to 24 letters in 0..5. -/
import Derived.Test.YtjghjlhjeibfoabLy2
namespace Go.Proofs.Ytjghjlhjeibfoab
open Go.RowKit
set_option linter.unusedVariables false
set_option maxRecDepth 4000

theorem rootL_is {xs : List Int} {q : Nat} (h1 : 1 ≤ q) (h2 : q ≤ xs.length) (h3 : rotB xs q = true) (h4 : ∀ i, 1 ≤ i → i < q → rotB xs i = false) : q = rootL xs :=
  (firstOf_is (p := rotB xs) (xs.length - 1) 1 q h1 (by omega) h3 h4).symm
theorem least_last {xs : List Int} {k m : Nat} (hk : k = xs.length) (hm : m = leastTo xs (k - 1)) : m = leastL xs := by rw [hm, hk]; rfl
theorem leastTo_lt {xs : List Int} {k m : Nat} (h1 : 1 ≤ k) (hk : k ≤ xs.length) (hm : m = leastTo xs (k - 1)) : m < xs.length := by
  have := leastTo_le xs (k - 1); omega
theorem least_stepY {xs : List Int} {k m : Nat} (h1 : 1 ≤ k) (hm : m = leastTo xs (k - 1)) (h : lessL (arL xs k xs.length) (arL xs m xs.length) = true) : k = leastTo xs (k + 1 - 1) := by
  rw [hm] at h
  obtain ⟨j, rfl⟩ : ∃ j, k = j + 1 := ⟨k - 1, by omega⟩
  rw [Nat.add_sub_cancel] at h ⊢
  exact (leastTo_yes h).symm
theorem least_stepN {xs : List Int} {k m : Nat} (h1 : 1 ≤ k) (hm : m = leastTo xs (k - 1)) (h : lessL (arL xs k xs.length) (arL xs m xs.length) = false) : m = leastTo xs (k + 1 - 1) := by
  rw [hm] at h ⊢
  obtain ⟨j, rfl⟩ : ∃ j, k = j + 1 := ⟨k - 1, by omega⟩
  rw [Nat.add_sub_cancel] at h ⊢
  exact (leastTo_no h).symm
set_option maxHeartbeats 1000000 in
theorem lyLeast_any (v : Value) (xs : List Int) (w : World) (h : Sits w v xs) (h1 : 1 ≤ xs.length) (hl : xs.length ≤ 24) (hs : smallL xs) :
    Calls Try.prog 77 #[v] w fun e w' => e = .returned (.int .i64 (leastL xs : Int)) ∧ Below w.heap.size w w' := by
  have HS := hid h
  obtain ⟨b, off, c, rfl, hc1, hm, hb, hc⟩ := h
  have HSM := hid hs
  have H1 := hid h1
  clear hc hs
  go_enter Try.func77, Try.ntmps77
  go_wp2_with fail
  go_loopw [3, 4] (fun bv iv wr => ∃ k m : Nat, iv = .int .i64 (k : Int) ∧ bv = .int .i64 (m : Int) ∧ 1 ≤ k ∧ k ≤ xs.length ∧ m = leastTo xs (k - 1) ∧ Below w.heap.size w wr) (fun _ i _ => xs.length - (intOf i).toNat)
  case atStart => exact ⟨1, 0, rfl, rfl, Nat.le_refl _, h1, rfl, Below.refl _ _⟩
  case round =>
    obtain ⟨k, m, rfl, rfl, hk1, hk, hm, hbel⟩ := hrel
    have HB := hid hbel
    have HM := hid hm
    have HML := hid (leastTo_lt hk1 hk hm)
    have HK1 := hid hk1
    by_cases hlt : k < xs.length
    · have q1 : (k : Int) < (xs.length : Int) := by omega
      have HC := hid (show cmpL (arL xs k xs.length) (arL xs m xs.length) < 0 ↔ lessL (arL xs k xs.length) (arL xs m xs.length) = true by simp [lessL])
      have HY := hid (least_stepY hk1 hm)
      have HN := hid (least_stepN hk1 hm)
      obtain ⟨z, hz⟩ : ∃ z, z = cmpL (arL xs k xs.length) (arL xs m xs.length) := ⟨_, rfl⟩
      rw [← hz] at HC
      have HZ := hid hz
      have HSW := hid (HS.out.below hbel)
      have HLA := hid (fun (s : Nat) => smallL_ar HSM.out H1.out s xs.length)
      have HLE := hid (fun (s : Nat) => show (arL xs s xs.length).length ≤ 1048576 by rw [arL_len]; omega)
      have hkb : k ≤ 1048576 := by omega
      have hmb : m ≤ 1048576 := by have := HML.out; omega
      have hlb : xs.length ≤ 1048576 := by omega
      clear hbel hm hz
      by_cases hneg : z < 0
      · have HR := hid (HY.out (HC.out.1 hneg))
        go_wp2_with (first
          | (go_at_call 79; (have HO1' := HO1); (refine (lyRotate_any _ xs m _ HSW1.out hmb h1 hlb).mono ?_); (rintro e w2 ⟨g2, c2, rfl, ho2, hb2⟩); (have HO2 := hid ho2); (have HO1b := hid (HO1.out.below hb2)); (have HB2 := hid (Below_chain HB1.out hb2)); (clear ho2 hb2))
          | (go_at_call 79; (refine (lyRotate_any _ xs k _ HSW.out hkb h1 hlb).mono ?_); (rintro e w1 ⟨g1, c1, rfl, ho1, hb1⟩); (have HO1 := hid ho1); (have HSW1 := hid (HSW.out.below hb1)); (have HB1 := hid hb1); (clear ho1 hb1))
          | (go_at_call 82; (refine (lyCompare_any _ _ _ _ _ HO1b.out.reads HO2.out.reads (HLA.out _) (HLA.out _) (HLE.out _) (HLE.out _)).mono ?_); (rintro e w3 ⟨rfl, hb3⟩); (rw [← HZ.out]); (have HB3 := hid (Below_chain HB.out (Below_chain HB2.out hb3))); (clear hb3))
          | fail)
        go_roundw
        case rel => exact ⟨k + 1, k, by go_num, rfl, by omega, by omega, HR.out, HB3.out⟩
        case measure => simp [intOf]; omega
      · have HR := hid (HN.out (by
          have : ¬ (lessL (arL xs k xs.length) (arL xs m xs.length) = true) := fun e => hneg (HC.out.2 e)
          simpa using this))
        go_wp2_with (first
          | (go_at_call 79; (have HO1' := HO1); (refine (lyRotate_any _ xs m _ HSW1.out hmb h1 hlb).mono ?_); (rintro e w2 ⟨g2, c2, rfl, ho2, hb2⟩); (have HO2 := hid ho2); (have HO1b := hid (HO1.out.below hb2)); (have HB2 := hid (Below_chain HB1.out hb2)); (clear ho2 hb2))
          | (go_at_call 79; (refine (lyRotate_any _ xs k _ HSW.out hkb h1 hlb).mono ?_); (rintro e w1 ⟨g1, c1, rfl, ho1, hb1⟩); (have HO1 := hid ho1); (have HSW1 := hid (HSW.out.below hb1)); (have HB1 := hid hb1); (clear ho1 hb1))
          | (go_at_call 82; (refine (lyCompare_any _ _ _ _ _ HO1b.out.reads HO2.out.reads (HLA.out _) (HLA.out _) (HLE.out _) (HLE.out _)).mono ?_); (rintro e w3 ⟨rfl, hb3⟩); (rw [← HZ.out]); (have HB3 := hid (Below_chain HB.out (Below_chain HB2.out hb3))); (clear hb3))
          | fail)
        go_roundw
        case rel => exact ⟨k + 1, m, by go_num, rfl, by omega, by omega, HR.out, HB3.out⟩
        case measure => simp [intOf]; omega
    · have HF := hid (least_last (by omega) hm)
      clear hbel hm
      go_wp2_with fail
      go_ret
      exact ⟨ret_int (by rw [← HF.out]), HB.out⟩
set_option maxHeartbeats 1000000 in
theorem leastRotation_any (v : Value) (xs : List Int) (w : World) (h : Sits w v xs) (h1 : 1 ≤ xs.length) (hl : xs.length ≤ 24) :
    Calls Try.prog 83 #[v] w fun e w' => ∃ g c, e = .returned (.tuple #[.int .i64 (leastL xs : Int), .slice (some ⟨g, 0, none⟩) xs.length c]) ∧ Own w' w.heap.size (.slice (some ⟨g, 0, none⟩) xs.length c) (arL xs (leastL xs) xs.length) ∧ Below w.heap.size w w' := by
  have HS := hid h
  obtain ⟨b, off, c, rfl, hc1, hm, hb, hc⟩ := h
  have H1 := hid h1
  have hlb : xs.length ≤ 1048576 := by omega
  clear hc
  go_enter Try.func83, Try.ntmps83
  go_wp2_with (first
    | (go_at_call 87; (refine (copyOf_any _ xs _ HS.out hlb).mono ?_); (rintro e w0 ⟨rfl, hr0, hb0⟩); (have HR0 := hid (show Own w0 w.heap.size (.slice (some ⟨w.heap.size, 0, none⟩) xs.length xs.length) (arL xs 0 xs.length) by rw [arL_zero]; exact copy_own hlb hr0)); (have HB0 := hid hb0); (clear hr0 hb0))
    | fail)
  go_loopw [4, 5, 6, 7] (fun bv fv iv _ wr => ∃ (k m g c : Nat), iv = .int .i64 (k : Int) ∧ bv = .int .i64 (m : Int) ∧ fv = .slice (some ⟨g, 0, none⟩) xs.length c ∧ 1 ≤ k ∧ k ≤ xs.length ∧ m = leastTo xs (k - 1) ∧ Own wr w.heap.size (.slice (some ⟨g, 0, none⟩) xs.length c) (arL xs m xs.length) ∧ Below w.heap.size w wr) (fun _ _ i _ _ => xs.length - (intOf i).toNat)
  case atStart => exact ⟨1, 0, _, _, rfl, rfl, rfl, Nat.le_refl _, h1, rfl, HR0.out, HB0.out⟩
  case round =>
    obtain ⟨k, m, g, c, rfl, rfl, rfl, hk1, hk, hm, hown, hbel⟩ := hrel
    have HB := hid hbel
    have HO := hid hown
    have HM := hid hm
    have HK1 := hid hk1
    by_cases hlt : k < xs.length
    · have q1 : (k : Int) < (xs.length : Int) := by omega
      have HY := hid (least_stepY hk1 hm)
      have HN := hid (least_stepN hk1 hm)
      have HSW := hid (HS.out.below hbel)
      have hkb : k ≤ 1048576 := by omega
      clear hbel hm hown
      cases hless : lessL (arL xs k xs.length) (arL xs m xs.length) with
      | true =>
        have HR := hid (HY.out hless)
        go_wp2_with (first
          | (go_at_call 85; (refine (rotated_any _ xs k _ HSW.out hkb h1 hlb).mono ?_); (rintro e w1 ⟨rfl, ho1, hb1⟩); (have HO1 := hid ho1); (have HO2 := hid (HO.out.below hb1)); (have HB1 := hid (Below_chain HB.out hb1)); (have HSZ := hid HB.out.size); (clear ho1 hb1))
          | (go_at_call 88; (refine (isLess_any _ _ _ _ _ HO1.out.reads HO2.out.reads).mono ?_); (rintro e w3 ⟨rfl, rfl⟩); (rw [hless]))
          | fail)
        go_roundw
        case rel => exact ⟨k + 1, k, _, _, by go_num, rfl, rfl, by omega, by omega, HR.out, HO1.out.mono HSZ.out, HB1.out⟩
        case measure => simp [intOf]; omega
      | false =>
        have HR := hid (HN.out hless)
        go_wp2_with (first
          | (go_at_call 85; (refine (rotated_any _ xs k _ HSW.out hkb h1 hlb).mono ?_); (rintro e w1 ⟨rfl, ho1, hb1⟩); (have HO1 := hid ho1); (have HO2 := hid (HO.out.below hb1)); (have HB1 := hid (Below_chain HB.out hb1)); (clear ho1 hb1))
          | (go_at_call 88; (refine (isLess_any _ _ _ _ _ HO1.out.reads HO2.out.reads).mono ?_); (rintro e w3 ⟨rfl, rfl⟩); (rw [hless]))
          | fail)
        go_roundw
        case rel => exact ⟨k + 1, m, _, _, by go_num, rfl, rfl, by omega, by omega, HR.out, HO2.out, HB1.out⟩
        case measure => simp [intOf]; omega
    · have HF := hid (least_last (by omega) hm)
      clear hbel hm hown
      go_wp2_with fail
      go_ret2
      exact ⟨g, c, by rw [← HF.out]; rfl, by rw [← HF.out]; exact HO.out, HB.out⟩
end Go.Proofs.Ytjghjlhjeibfoab
