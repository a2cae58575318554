/- Contract: impl.RevolvingAt. Conditions: none. -/
import Derived.Test.YtijjdidljoicfaaRvM
import Derived.Test.YtijjdidljoicfaaRevS
import Derived.Test.YtijjdidljoicfaaI3
import Derived.Test.YtijjdidljoicfaaCol3
namespace Go.Proofs.Ytijjdidljoicfaa
open Go.RowKit
set_option linter.unusedVariables false

theorem ra_no {n k r : Int} (h : raB n k r = false) : raRes n k r = [] := by
  unfold raRes; split
  · rename_i hs
    rw [raB, hs, Bool.true_and] at h
    rw [ofRes, if_neg (by rw [h]; simp)]
  · rfl
theorem ra_yes {N K R : Nat} (hN : N ≤ 12) (hK : K ≤ N) (h : R < binom N K) : raB (N : Int) (K : Int) (R : Int) = true ∧ raRes (N : Int) (K : Int) (R : Int) = (revL N K).getD R [] := by
  have hs : szB (N : Int) (K : Int) = true := by rw [szB, Bool.and_eq_true, inB_iff, inB_iff]; omega
  have hl := revL_len N hN K hK
  have ho : ofB (revL N K) (R : Int) = true := by rw [ofB, inB_iff, hl]; omega
  exact ⟨by rw [raB, hs, Int.toNat_natCast, Int.toNat_natCast, ho]; rfl, by rw [raRes, if_pos hs, Int.toNat_natCast, Int.toNat_natCast, ofRes, if_pos ho, Int.toNat_natCast]⟩
theorem ra_off {N K : Nat} {r : Int} (hN : N ≤ 12) (hK : K ≤ N) (h : r < 0 ∨ (binom N K : Int) ≤ r) : raB (N : Int) (K : Int) r = false := by
  have hl := revL_len N hN K hK
  have ho : ofB (revL N K) r = false := Bool.eq_false_iff.2 (fun e => by rw [ofB, inB_iff, hl] at e; omega)
  rw [raB, Int.toNat_natCast, Int.toNat_natCast, ho, Bool.and_false]
set_option maxHeartbeats 1000000 in
theorem impl_RevolvingAt_any (n k r : Int) (w : World) (_wn : (Lit.int .i64 n).wf = true) (_wk : (Lit.int .i64 k).wf = true) (_wr : (Lit.int .i64 r).wf = true) :
    Calls Try.prog 27 #[.int .i64 n, .int .i64 k, .int .i64 r] w fun e w' => ∃ u, e = .returned (.tuple #[u, .bool (raB n k r)]) ∧ Own w' w.heap.size u (raRes n k r) ∧ Below w.heap.size w w' := by
  cases hs : szB n k with
  | true =>
    have HS := hid hs
    obtain ⟨N, K, rfl, rfl, hN, hK⟩ := szB_nat hs
    have hbb := binom_le N (by omega) K (by omega)
    have HCZ := hid (show chooseZ (N : Int) (K : Int) = binom N K from chooseZ_nat N K (by omega) (by omega))
    clear hs
    by_cases h3 : 0 ≤ r
    · obtain ⟨R, rfl⟩ := Int.eq_ofNat_of_zero_le h3
      by_cases h4 : R < binom N K
      · obtain ⟨hf, hx⟩ := ra_yes hN hK h4
        have HF := hid hf
        have HX := hid hx
        obtain ⟨all, hall⟩ : ∃ all, all = (revL N K).getD R [] := ⟨_, rfl⟩
        have HI0 : Hid (RevInv all N R K []) := hid ⟨hK, hN, h4, by rw [hall]; simp⟩
        have HALL := hid hall
        have HAL := hid (show all.length = K by
          have hlt : R < (revL N K).length := by rw [revL_len N hN K hK]; exact h4
          rw [hall, List.getD_eq_getElem?_getD, List.getElem?_eq_getElem hlt, Option.getD_some, revL_elem N K hK _ (List.getElem_mem _)])
        have hmk := run_make_ints K (by omega) w
        have HM := hid (World.rowIs_made w (.int .i64 0) K 3)
        have HB0 := hid ((Below.refl w.heap.size w).alloc (Nat.le_refl _) (.cells (madeCells #[.int .i64 0] K) 3))
        obtain ⟨B, hB⟩ : ∃ B, B = binom N K := ⟨_, rfl⟩
        rw [← hB] at h4 hbb HCZ
        clear hall hB hf hx
        go_enter Try.func27, Try.ntmps27
        go_wp2_with (first
          | (go_at_call 65; refine (isChoice_any _ _ _).mono ?_; rintro e w' ⟨rfl, rfl⟩; rw [HS.out])
          | (go_at_call 66; refine (choose_any _ _ _ (by omega) (by omega)).mono ?_; rintro e w' ⟨rfl, rfl⟩; rw [HCZ.out])
          | fail)
        clear hmk
        have hdec : decide (B ≤ R) = false := by simp; omega
        simp only [hdec, Bool.or_false]
        clear hdec
        go_loopw [2, 9, 10] (fun rv xv iv wr => ∃ (x R' m : Nat) (tail : List Int), xv = .int .i64 x ∧ x ≤ 12 ∧ rv = .int .i64 R' ∧ R' ≤ 2000 ∧ iv = .int .i64 ((m : Int) - 1) ∧ m ≤ K ∧ RevInv all x R' m tail ∧ wr.rowIs w.heap.size 3 K (fun j => .int .i64 (backRow m tail j)) ∧ Below w.heap.size w wr) (fun _ _ iv _ => (intOf iv + 1).toNat)
        case atStart => exact ⟨N, R, K, [], rfl, by omega, rfl, by omega, rfl, Nat.le_refl _, HI0.out, World.rowIs.congr HM.out (fun i hi => by rw [backRow, if_neg (by omega)]), HB0.out⟩
        case round =>
          obtain ⟨x, R', m, tail, rfl, hx12, rfl, hR', rfl, hmK, hinv, hrow, hbel⟩ := hrel
          have HINV := hid hinv
          have HB := hid hbel
          clear hinv
          cases m with
          | zero =>
            rw [show (((0 : Nat) : Int) - 1) = -1 from rfl]
            have HR := hid hrow
            have HE : Hid (tail = all) := by
              show tail = all
              obtain ⟨_, _, a1, a2⟩ := HINV.out
              have e : revL x 0 = [[]] := by cases x <;> rfl
              have e2 : binom x 0 = 1 := by cases x <;> rfl
              rw [e2] at a1
              rw [e] at a2
              have : R' = 0 := by omega
              rw [this] at a2
              simpa using a2
            clear hrow hbel
            go_wp2_with fail
            go_ret2
            exact ⟨_, ret_sb6 HF.out.symm, by rw [HX.out, ← HALL.out, ← HE.out]; exact Own.of_rowIs (HR.out.congr (fun i hi => by rw [backRow, if_pos (Nat.zero_le _), Nat.sub_zero])) (by rw [HE.out, HAL.out]) (by unfold maxLen; omega), HB.out⟩
          | succ j =>
            rw [show (((j + 1 : Nat) : Int) - 1) = (j : Int) from by omega]
            have hxp : j + 1 ≤ x := HINV.out.1
            obtain ⟨y, rfl⟩ : ∃ y, x = y + 1 := ⟨x - 1, by omega⟩
            rw [show (((y + 1 : Nat) : Int)) = (y : Int) + 1 from by omega]
            have hj : j < K := by omega
            have hf := hrow.frozen j
            obtain ⟨z, hz⟩ : ∃ z, wr.cell? ⟨w.heap.size, j, none⟩ = some z := ⟨_, hrow.cell hj⟩
            have HROW := hid hrow
            clear hrow hbel
            have hjp : ((j : Int) ≥ 0) := by omega
            go_wp2_with fail
            go_loop [9] (fun xv => ∃ x : Nat, x < 12 ∧ xv = .int .i64 x ∧ RevInv all (x + 1) R' (j + 1) tail) (fun xv => (intOf xv).toNat)
            case atStart => exact ⟨y, by omega, by first | rfl | go_num, HINV.out⟩
            case round =>
              obtain ⟨x, hx, rfl, hinv⟩ := hrel
              have HIN := hid hinv
              clear hinv
              have hbn : binom x (j + 1) ≤ 924 := binom_le _ (by omega) _ (by omega)
              have hbn1 : binom (x + 1) (j + 1) ≤ 924 := binom_le _ (by omega) _ (by omega)
              have HCH : Hid (chooseZ (x : Int) ((j : Int) + 1) = binom x (j + 1)) := by
                show chooseZ (x : Int) ((j : Int) + 1) = binom x (j + 1)
                rw [show ((j : Int) + 1) = ((j + 1 : Nat) : Int) by omega]
                exact chooseZ_nat _ _ (by omega) (by omega)
              have HCH1 : Hid (chooseZ ((x : Int) + 1) ((j : Int) + 1) = binom (x + 1) (j + 1)) := by
                show chooseZ ((x : Int) + 1) ((j : Int) + 1) = binom (x + 1) (j + 1)
                rw [show ((j : Int) + 1) = ((j + 1 : Nat) : Int) by omega, show ((x : Int) + 1) = ((x + 1 : Nat) : Int) by omega]
                exact chooseZ_nat _ _ (by omega) (by omega)
              obtain ⟨C, hC⟩ : ∃ C, C = binom x (j + 1) := ⟨_, rfl⟩
              obtain ⟨D, hD⟩ : ∃ D, D = binom (x + 1) (j + 1) := ⟨_, rfl⟩
              have HRD := hid (show R' < D by rw [hD]; exact HIN.out.2.2.1)
              rw [← hC] at hbn HCH
              rw [← hD] at hbn1 HCH1
              by_cases hr : R' < C
              · have HDN := hid (HIN.out.down (by rw [← hC]; exact hr))
                have hxp2 : j + 1 ≤ x := HDN.out.1
                obtain ⟨x', rfl⟩ : ∃ x', x = x' + 1 := ⟨x - 1, by omega⟩
                have HCH2 : Hid (chooseZ ((x' : Int) + 1) ((j : Int) + 1) = C) := by
                  show chooseZ ((x' : Int) + 1) ((j : Int) + 1) = C
                  rw [show ((x' : Int) + 1) = ((x' + 1 : Nat) : Int) by omega]
                  exact HCH.out
                clear hC HCH hD HCH1
                go_wp2_with (first
                  | (go_at_call 66; refine (choose_any _ _ _ (by omega) (by omega)).mono ?_; rintro e w' ⟨rfl, rfl⟩; rw [HCH2.out])
                  | fail)
                go_round
                case rel => exact ⟨x', by omega, by go_num, HDN.out⟩
                case measure => simp [intOf]; try omega
              · have HT := hid (HIN.out.take (by rw [← hC]; exact hr))
                rw [← hD] at HT
                have hrd := HRD.out
                have HSB := hid (show ((D - 1 - R' : Nat) : Int) = (D : Int) - 1 - (R' : Int) by omega)
                have HSS := hid (backRow_set (x := (x : Int)) HROW.out)
                have HBS := hid (HB.out.setCell (p := ⟨w.heap.size, j, none⟩) (Nat.le_refl _) (.int .i64 (x : Int)))
                clear hC hD
                go_wp2_with (first
                  | (go_at_call 66; refine (choose_any _ _ _ (by omega) (by omega)).mono ?_; rintro e w' ⟨rfl, rfl⟩; first | rw [HCH.out] | rw [HCH1.out])
                  | fail)
                go_roundw
                case rel => exact ⟨x, D - 1 - R', j, (x : Int) :: tail, rfl, by omega, by rw [HSB.out], by omega, by go_num, by omega, HT.out, HSS.out, HBS.out⟩
                case measure => simp [intOf]; try omega
      · have HF := hid (ra_off (r := (R : Int)) hN hK (by omega))
        have HX := hid (ra_no HF.out)
        have hge : (binom N K : Int) ≤ (R : Int) := by omega
        obtain ⟨B, hB⟩ : ∃ B, B = binom N K := ⟨_, rfl⟩
        rw [← hB] at h4 hbb HCZ hge
        clear hB
        go_enter Try.func27, Try.ntmps27
        go_wp2_with (first
          | (go_at_call 65; refine (isChoice_any _ _ _).mono ?_; rintro e w' ⟨rfl, rfl⟩; rw [HS.out])
          | (go_at_call 66; refine (choose_any _ _ _ (by omega) (by omega)).mono ?_; rintro e w' ⟨rfl, rfl⟩; rw [HCZ.out])
          | fail)
        go_ret2
        exact ⟨_, ret_sb6 HF.out.symm, by rw [HX.out]; exact Own.nil _ _, Below.refl _ _⟩
    · have HF := hid (ra_off (r := r) hN hK (by omega))
      have HX := hid (ra_no HF.out)
      clear hbb HCZ
      go_enter Try.func27, Try.ntmps27
      go_wp2_with (first | (go_at_call 65; refine (isChoice_any _ _ _).mono ?_; rintro e w' ⟨rfl, rfl⟩; rw [HS.out]) | fail)
      go_ret2
      exact ⟨_, ret_sb6 HF.out.symm, by rw [HX.out]; exact Own.nil _ _, Below.refl _ _⟩
  | false =>
    have HS := hid hs
    have HF := hid (show raB n k r = false by rw [raB, hs]; rfl)
    have HX := hid (ra_no HF.out)
    clear hs
    go_enter Try.func27, Try.ntmps27
    go_wp2_with (first | (go_at_call 65; refine (isChoice_any _ _ _).mono ?_; rintro e w' ⟨rfl, rfl⟩; rw [HS.out]) | fail)
    go_ret2
    exact ⟨_, ret_sb6 HF.out.symm, by rw [HX.out]; exact Own.nil _ _, Below.refl _ _⟩
end Go.Proofs.Ytijjdidljoicfaa
