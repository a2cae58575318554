/- Contracts: spec.IsTorus; isRowCount, numbersOf. Conditions: a torus whose rows are slices that are not nil. -/
import Derived.Test.YteimfdpkodcfbaaTor2
import Derived.Test.YteimfdpkodcfbaaBs3
import Derived.Test.YteimfdpkodcfbaaBs1
namespace Go.Proofs.Yteimfdpkodcfbaa
open Go.RowKit
set_option linter.unusedVariables false
set_option maxRecDepth 4000

def itR (L : List (List Int)) : Bool := tuB L && wiB L L.length (16 / L.length)
theorem ret_bbT {a a' b b' : Bool} (h : a = a') (h2 : b = b') : Ending.returned (.tuple #[.bool a, .bool b]) = .returned (.tuple #[.bool a', .bool b']) := by rw [h, h2]
theorem itR_no {L : List (List Int)} (h : tuB L = false) : itR L = false := by unfold itR; rw [h]; rfl
theorem itR_yes {L : List (List Int)} (h : tuB L = true) : itR L = wiB L L.length (16 / L.length) := by unfold itR; rw [h]; rfl
theorem sitsL_shape {w : World} {v : Value} {L : List (List Int)} (h : SitsL w v L) : ∃ b off c, v = .slice (some ⟨b, off, none⟩) L.length c := by
  obtain ⟨b, off, c, rfl, _⟩ := h
  exact ⟨b, off, c, rfl⟩
theorem spec_IsTorus_any (v : Value) (L : List (List Int)) (w : World) (h : SitsL w v L) :
    Calls Try.prog 45 #[.agg #[v]] w fun e w' => e = .returned (.tuple #[.bool (itR L), .bool (tuB L)]) ∧ Below w.heap.size w w' := by
  have HS := hid h
  obtain ⟨b, off, c, rfl⟩ := sitsL_shape h
  obtain ⟨w1, hw1⟩ : ∃ w1, w1 = w.alloc (.cells #[.slice (some ⟨b, off, none⟩) L.length c] 48) := ⟨_, rfl⟩
  have HW1 := hid hw1
  have hB1 : Below w.heap.size w w1 := by rw [hw1]; exact (Below.refl _ _).alloc (Nat.le_refl _) _
  have HB1 := hid hB1
  have HS1 := hid (show w1.heap.size = w.heap.size + 1 by rw [hw1]; simp)
  have HX0 := hid (show w1.cell? ⟨w.heap.size, 0, none⟩ = some (.slice (some ⟨b, off, none⟩) L.length c) by rw [hw1]; simp)
  have HSI := hid (h.below hB1)
  clear hw1 hB1 h
  cases ht : tuB L with
  | false =>
    have HR := hid (itR_no ht)
    go_enter Try.func45, Try.ntmps45
    go_wp2_with (first
      | (go_at_call 103; (rw [← HW1.out]); (refine (suTorus_any _ L _ HSI.out).mono ?_); (rintro e w2 ⟨rfl, hb2⟩); (rw [ht]); (have HB2 := hid (Below_chain HB1.out hb2)); (clear hb2))
      | fail)
    go_ret2
    exact ⟨ret_bbT HR.out.symm rfl, HB2.out⟩
  | true =>
    have HR := hid (itR_yes ht)
    have HI := hid (tuB_iff.1 ht)
    go_enter Try.func45, Try.ntmps45
    go_wp2_with (first
      | (go_at_call 103; (rw [← HW1.out]); (refine (suTorus_any _ L _ HSI.out).mono ?_); (rintro e w2 ⟨rfl, hb2⟩); (rw [ht]); (have HB2 := hid (Below_chain HB1.out hb2)); (have HSJ := hid (HSI.out.below hb2)); (have x0 : w2.cell? ⟨w.heap.size, 0, none⟩ = some (.slice (some ⟨b, off, none⟩) L.length c) := (hb2.cell (by show w.heap.size < w1.heap.size; rw [HS1.out]; omega)).trans HX0.out); (clear hb2))
      | (go_at_call 104; (refine (suWindows_any b off c L.length (16 / L.length) L _ HI.out HSJ.out).mono ?_); (rintro e w3 ⟨rfl, hb3⟩); (have HB3 := hid (Below_chain HB2.out hb3)); (clear hb3))
      | fail)
    go_ret2
    exact ⟨ret_bbT HR.out.symm rfl, HB3.out⟩
/-- numbers of rows -/
def rcB (n : Int) : Bool := decide (1 ≤ n ∧ n ≤ 16 ∧ 16 % n = 0)
theorem isRowCount_any (n : Int) (w : World) : Calls Try.prog 109 #[.int .i64 n] w fun e w' => e = .returned (.bool (rcB n)) ∧ w = w' := by
  by_cases h1 : 1 ≤ n
  · obtain ⟨m, rfl⟩ : ∃ m : Nat, n = (m : Int) := ⟨n.toNat, by omega⟩
    have hn0 : ¬ (m : Int) = 0 := by omega
    have hn1 : ¬ m = 0 := by omega
    obtain ⟨r, hr⟩ : ∃ r, r = 16 % m := ⟨_, rfl⟩
    have hri : (16 : Int) % (m : Int) = (r : Int) := by rw [hr, Int.natCast_emod]; rfl
    have hri2 : (16 : Int).tmod (m : Int) = (r : Int) := by rw [Int.tmod_eq_emod_of_nonneg (by omega), hri]
    have hr16 : r ≤ 16 := by rw [hr]; exact Nat.mod_le _ _
    by_cases hr0 : r = 0
    · have hm16 : m ≤ 16 := Nat.le_of_dvd (by omega) (Nat.dvd_of_mod_eq_zero (by rw [← hr]; exact hr0))
      have HB := hid (show rcB (m : Int) = true from decide_eq_true ⟨h1, by omega, by rw [hri, hr0]; rfl⟩)
      have hrz : ((r : Int) == 0) = true := by rw [hr0]; rfl
      clear hr hr0
      go_enter Try.func109, Try.ntmps109
      go_wp2_with fail
      go_ret
      exact ⟨ret_bool HB.out.symm, rfl⟩
    · have HB := hid (show rcB (m : Int) = false from decide_eq_false (fun h => hr0 (by have := h.2.2; rw [hri] at this; omega)))
      have hrz : ((r : Int) == 0) = false := beq_eq_false_iff_ne.2 (by omega)
      clear hr hr0
      go_enter Try.func109, Try.ntmps109
      go_wp2_with fail
      go_ret
      exact ⟨ret_bool HB.out.symm, rfl⟩
  · have HB := hid (show rcB n = false from decide_eq_false (fun h => h1 h.1))
    go_enter Try.func109, Try.ntmps109
    go_wp2_with fail
    go_ret
    exact ⟨ret_bool HB.out.symm, rfl⟩
theorem rcB_nat {n : Nat} : rcB (n : Int) = true ↔ 1 ≤ n ∧ n ≤ 16 ∧ 16 % n = 0 := by
  unfold rcB
  rw [decide_eq_true_eq]
  have e : (16 : Int) % (n : Int) = ((16 % n : Nat) : Int) := by rw [Int.natCast_emod]; rfl
  rw [e]
  omega
def nmR (L : List (List Int)) : List Int := if tuB L = true then L.flatten else []
theorem nmR_yes {L : List (List Int)} (h : tuB L = true) : nmR L = L.flatten := by unfold nmR; rw [if_pos h]
theorem nmR_no {L : List (List Int)} (h : tuB L = false) : nmR L = [] := by unfold nmR; rw [if_neg (by rw [h]; simp)]
theorem numbersOf_any (v : Value) (L : List (List Int)) (w : World) (h : SitsL w v L) :
    Calls Try.prog 106 #[.agg #[v]] w fun e w' => ∃ u, e = .returned (.tuple #[u, .bool (tuB L)]) ∧ Own w' w.heap.size u (nmR L) ∧ Below w.heap.size w w' := by
  have HSL := hid h
  obtain ⟨b, off, c, rfl, hc1, hcm, hb, hc⟩ := h
  have HC := hid hc
  clear hc
  obtain ⟨w1, hw1⟩ : ∃ w1, w1 = w.alloc (.cells #[.slice (some ⟨b, off, none⟩) L.length c] 48) := ⟨_, rfl⟩
  have HB1 := hid (show Below w.heap.size w w1 by rw [hw1]; exact (Below.refl _ _).alloc (Nat.le_refl _) _)
  have HX0 := hid (show w1.cell? ⟨w.heap.size, 0, none⟩ = some (.slice (some ⟨b, off, none⟩) L.length c) by rw [hw1]; simp)
  obtain ⟨n, hn⟩ : ∃ n, n = L.length := ⟨_, rfl⟩
  have HN := hid hn
  rw [← hn] at hc1 hw1 HX0 HSL ⊢
  have HW1 := hid hw1
  clear hn hw1
  have x0 := HX0.out
  cases h16 : rcB (n : Int) with
  | false =>
    have HF := hid (tuB_no (L := L) (fun h => by
      rw [← HN.out] at h
      rw [rcB_nat.2 h] at h16
      cases h16))
    have HR := hid (nmR_no HF.out)
    have H16 := hid h16
    rw [HW1.out] at x0
    clear h16
    go_enter Try.func106, Try.ntmps106
    go_wp2_with (first
      | (go_at_call 109; (refine (isRowCount_any _ _).mono ?_); (rintro e w' ⟨rfl, rfl⟩); (rw [H16.out]))
      | fail)
    rw [← HW1.out]
    go_ret2
    exact ⟨_, ret_sb HF.out.symm, by rw [HR.out]; exact Own.nil _ _, HB1.out⟩
  | true =>
    have h1 := rcB_nat.1 h16
    have H16 := hid h16
    have hn0 : ¬ (n : Int) = 0 := by omega
    have hn1 : ¬ n = 0 := by omega
    have hn0' : ((n : Int) == 0) = false := beq_eq_false_iff_ne.2 hn0
    obtain ⟨q, hq⟩ : ∃ q, q = 16 / n := ⟨_, rfl⟩
    have hqi : (16 : Int) / (n : Int) = (q : Int) := by rw [hq, Int.natCast_ediv]; rfl
    have hqi2 : (16 : Int).tdiv (n : Int) = (q : Int) := by rw [Int.tdiv_eq_ediv_of_nonneg (by omega), hqi]
    have hq16 : q ≤ 16 := by rw [hq]; exact Nat.div_le_self _ _
    have HT := hid (show tuB L = allTo n (fun i => trwB q (L.getD i [])) by
      rw [tuB_yes (by rw [← HN.out]; exact h1), ← HN.out, hq])
    obtain ⟨h1a, h1b, _⟩ := h1
    have HX := hid x0
    clear hq h16 x0
    have x0 := HX.out
    rw [HW1.out] at x0
    go_enter Try.func106, Try.ntmps106
    go_wp2_with (first
      | (go_at_call 109; (refine (isRowCount_any _ _).mono ?_); (rintro e w' ⟨rfl, rfl⟩); (rw [H16.out]))
      | fail)
    rw [← HW1.out]
    clear x0
    have x0 := HX.out
    go_loopw [5, 14] (fun _ i wr => ∃ k : Nat, i = .int .i64 (k : Int) ∧ k ≤ n ∧ allTo k (fun i => trwB q (L.getD i [])) = true ∧ wr = w1) (fun _ i _ => n - (intOf i).toNat)
    case atStart => exact ⟨0, rfl, Nat.zero_le _, rfl, rfl⟩
    case round =>
      obtain ⟨k, rfl, hk, hall, rfl⟩ := hrel
      have HA := hid hall
      clear hall
      by_cases hlt : k < n
      · obtain ⟨u, hu, hsit⟩ := HC.out k (by rw [← HN.out]; exact hlt)
        have HGD := hid (show L.getD k [] = L[k]'(by rw [← HN.out]; exact hlt) by rw [List.getD_eq_getElem?_getD, List.getElem?_eq_getElem (by rw [← HN.out]; exact hlt)]; rfl)
        obtain ⟨l, hl⟩ : ∃ l, l = L[k]'(by rw [← HN.out]; exact hlt) := ⟨_, rfl⟩
        rw [← hl] at hsit HGD
        have hcx := (HB1.out.cell (p := ⟨b, off + k, none⟩) (by exact hb)).trans hu
        have HS := hid (hsit.below HB1.out)
        obtain ⟨b2, o2, c2, rfl, hd1, hdm, hb2, hd⟩ := hsit
        clear hd hu hl
        obtain ⟨m, hm⟩ : ∃ m, m = l.length := ⟨_, rfl⟩
        have HM := hid hm
        rw [← hm] at hcx HS hd1
        clear hm
        by_cases hml : m = q
        · have hne : ((m : Int) != (q : Int)) = false := by rw [hml]; simp
          have HML := hid hml
          clear hml
          cases hbl : belowB l 2 with
          | false =>
            have HF := hid (show tuB L = false by
              rw [HT.out]
              refine allTo_no hlt ?_
              show trwB q (L.getD k []) = false
              rw [HGD.out]; unfold trwB; rw [hbl, Bool.and_false])
            have HR := hid (nmR_no HF.out)
            go_wp2_with (first
              | (go_at_call 126; (refine (areBelow_any _ l _ _ HS.out.reads).mono ?_); (rintro e w' ⟨rfl, rfl⟩); (rw [hbl]))
              | fail)
            go_ret2
            exact ⟨_, ret_sb HF.out.symm, by rw [HR.out]; exact Own.nil _ _, HB1.out⟩
          | true =>
            have HOK := hid (show trwB q (L.getD k []) = true by
              rw [HGD.out]; unfold trwB; rw [hbl, Bool.and_true]; exact decide_eq_true (by rw [← HM.out]; exact HML.out))
            go_wp2_with (first
              | (go_at_call 126; (refine (areBelow_any _ l _ _ HS.out.reads).mono ?_); (rintro e w' ⟨rfl, rfl⟩); (rw [hbl]))
              | fail)
            go_roundw
            case rel => exact ⟨k + 1, by go_num, hlt, allTo_next HA.out HOK.out, trivial⟩
            case measure => simp [intOf]; omega
        · have hne : ((m : Int) != (q : Int)) = true := by simp; omega
          have HF := hid (show tuB L = false by
            rw [HT.out]
            refine allTo_no hlt ?_
            show trwB q (L.getD k []) = false
            rw [HGD.out]; unfold trwB; rw [decide_eq_false (by rw [← HM.out]; exact hml)]; rfl)
          have HR := hid (nmR_no HF.out)
          go_wp2_with fail
          go_ret2
          exact ⟨_, ret_sb HF.out.symm, by rw [HR.out]; exact Own.nil _ _, HB1.out⟩
      · have HF := hid (show tuB L = true by rw [HT.out]; have h2 := HA.out; rw [show k = n by omega] at h2; exact h2)
        have HR := hid (nmR_yes HF.out)
        have hfl := (tuB_iff.1 HF.out).flat
        have HFL := hid hfl
        have hjoin := joined_any (.slice (some ⟨b, off, none⟩) n c) L wr (HSL.out.below HB1.out) (by rw [← HN.out]; omega) (by rw [hfl]; omega)
        rw [hfl] at hjoin
        have HJ := hid hjoin
        clear hfl hjoin
        go_wp2_with (first
          | (go_at_call 60; (refine HJ.out.mono ?_); (rintro e w3 ⟨rfl, ho3, hb3⟩); (have HO3 := hid ho3); (have HB3 := hid (Below_chain HB1.out hb3)); (clear ho3 hb3))
          | fail)
        go_ret2
        exact ⟨_, ret_sb HF.out.symm, by rw [HR.out]; exact HO3.out.mono HB1.out.size, HB3.out⟩
end Go.Proofs.Yteimfdpkodcfbaa
