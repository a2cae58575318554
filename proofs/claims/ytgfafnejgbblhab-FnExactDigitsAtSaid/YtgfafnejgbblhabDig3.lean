/- Contracts: impl.DigitsAt, raAreDigits, areDigits, raNumber, and both RankOfDigits functions. Conditions: the slices read as lists of at most 2^20 numbers. -/
import Derived.Test.YtgfafnejgbblhabDig2
namespace Go.Proofs.Ytgfafnejgbblhab
open Go.RowKit
set_option linter.unusedVariables false

theorem impl_DigitsAt_any (v : Value) (xs : List Int) (r : Int) (w : World) (h : Sits w v xs) (hl : xs.length ≤ 1048576) (_hwf : ∀ n ∈ xs, (Lit.int .i64 n).wf = true) (_hr : (Lit.int .i64 r).wf = true) :
    Calls Try.prog 31 #[v, .int .i64 r] w fun e w' => ∃ u, e = .returned (.tuple #[u, .bool (digB xs r)]) ∧ Own w' w.heap.size u (digRes xs r) ∧ Below w.heap.size w w' := by
  have HS := hid h
  obtain ⟨b, off, c, rfl, hc1, hm, hb, hc⟩ := h
  have HC := hid hc
  clear hc
  by_cases h1 : basesB xs = true
  · obtain ⟨k1, k2, k3⟩ := basesB_iff.1 h1
    have k4 := prodTo_pos k2
    have HALL := hid k2
    obtain ⟨p, hp⟩ : ∃ p, p = prodTo xs xs.length := ⟨_, rfl⟩
    have HP := hid hp
    have HPR : Hid (prodRes xs = p) := by
      show prodRes xs = p
      rw [prodRes_yes h1, hp]
    rw [← hp] at k3 k4
    clear k2
    by_cases h2 : 0 ≤ r
    · by_cases h3 : r < p
      · have HF : Hid (digB xs r = true) := by
          show digB xs r = true
          rw [digB, h1, ← hp]; simp [inB]; omega
        have HX := hid (digRes_yes HF.out)
        have hmk := run_make_ints xs.length (by omega) w
        have HM := hid (World.rowIs_made w (.int .i64 0) xs.length 3)
        have HB0 := hid ((Below.refl w.heap.size w).alloc (Nat.le_refl _) (.cells (madeCells #[.int .i64 0] xs.length) 3))
        clear hp
        go_enter Try.func31, Try.ntmps31
        go_wp2_with (go_at_call 61; refine (productOf_any _ xs _ HS.out).mono ?_; rintro e w' ⟨rfl, rfl⟩; rw [HPR.out])
        clear hmk
        go_loopw [1, 9] (fun q i wr => ∃ k : Nat, k ≤ xs.length ∧ i = .int .i64 ((k : Int) - 1) ∧ q = .int .i64 (remD xs r (xs.length - k)) ∧ wr.rowIs w.heap.size 3 xs.length (fun j => .int .i64 (digRow xs r k j)) ∧ Below w.heap.size w wr) (fun _ i _ => (intOf i + 1).toNat)
        case atStart => exact ⟨xs.length, Nat.le_refl _, rfl, by rw [Nat.sub_self]; rfl, World.rowIs.congr HM.out (fun i hi => by rw [digRow, if_neg (by omega)]), HB0.out⟩
        case round =>
          obtain ⟨k, hk, rfl, rfl, hrow, hbel⟩ := hrel
          obtain ⟨q1, q2⟩ := remD_range HALL.out h2 (xs.length - k) (by omega)
          cases k with
          | zero =>
            rw [show (((0 : Nat) : Int) - 1) = -1 from rfl]
            have HR := hid hrow
            clear hrow
            go_wp2
            go_ret2
            exact ⟨_, ret_sb HF.out.symm, by rw [HX.out]; exact Own.of_rowIs (xs := digitsL xs r) (HR.out.congr (fun i hi => by rw [digRow, if_pos (Nat.zero_le _)])) (digitsL_length _ _) (by unfold maxLen; omega), hbel⟩
          | succ j =>
            rw [show (((j + 1 : Nat) : Int) - 1) = (j : Int) from by omega]
            have hj : j < xs.length := by omega
            have hcx : wr.cell? ⟨b, off + j, none⟩ = some (.int .i64 xs[j]) := (hbel.cell (by exact hb)).trans (HC.out j hj)
            obtain ⟨b1, b2⟩ := base_range HALL.out hj
            rw [getD_at hj] at b1 b2
            have hf := hrow.frozen j
            obtain ⟨z, hz⟩ : ∃ z, wr.cell? ⟨w.heap.size, j, none⟩ = some z := ⟨_, hrow.cell hj⟩
            obtain ⟨q, hq⟩ : ∃ q, q = remD xs r (xs.length - (j + 1)) := ⟨_, rfl⟩
            rw [← hq] at q1 q2 ⊢
            have HD : Hid (q % xs[j] = (digitsL xs r).getD j 0) := by
              show q % xs[j] = (digitsL xs r).getD j 0
              rw [digitsL_getD hj, getD_at hj, hq, show xs.length - (j + 1) = xs.length - 1 - j by omega]
            have HQ : Hid (remD xs r (xs.length - j) = q / xs[j]) := by
              show remD xs r (xs.length - j) = q / xs[j]
              rw [show xs.length - j = (xs.length - (j + 1)) + 1 by omega, remD, ← hq, show xs.length - 1 - (xs.length - (j + 1)) = j by omega, getD_at hj]
            have HSS := hid (digRow_set hj HD.out hrow)
            have HB := hid (hbel.setCell (p := ⟨w.heap.size, j, none⟩) (Nat.le_refl _) (.int .i64 (q % xs[j])))
            clear hrow hbel hq
            have hne : (xs[j] == 0) = false := by simp; omega
            go_wp2
            go_roundw
            case rel => exact ⟨j, by omega, rfl, by rw [HQ.out], HSS.out, HB.out⟩
            case measure => simp [intOf]; try omega
      · have HF : Hid (digB xs r = false) := by
          show digB xs r = false
          rw [digB, h1, ← hp]; simp [inB]; omega
        have HX := hid (digRes_no HF.out)
        clear hp
        go_enter Try.func31, Try.ntmps31
        go_wp2_with (go_at_call 61; refine (productOf_any _ xs _ HS.out).mono ?_; rintro e w' ⟨rfl, rfl⟩; rw [HPR.out])
        go_ret2
        exact ⟨_, ret_sb HF.out.symm, by rw [HX.out]; exact Own.nil _ _, Below.refl _ _⟩
    · have HF : Hid (digB xs r = false) := by
        show digB xs r = false
        rw [digB, h1, ← hp]; simp [inB]; omega
      have HX := hid (digRes_no HF.out)
      clear hp
      go_enter Try.func31, Try.ntmps31
      go_wp2_with (go_at_call 61; refine (productOf_any _ xs _ HS.out).mono ?_; rintro e w' ⟨rfl, rfl⟩; rw [HPR.out])
      go_ret2
      exact ⟨_, ret_sb HF.out.symm, by rw [HX.out]; exact Own.nil _ _, Below.refl _ _⟩
  · have h1 : basesB xs = false := by simpa using h1
    have HF : Hid (digB xs r = false) := by
      show digB xs r = false
      rw [digB, h1]; rfl
    have HX := hid (digRes_no HF.out)
    go_enter Try.func31, Try.ntmps31
    go_wp2_with (go_at_call 61; refine (productOf_any _ xs _ HS.out).mono ?_; rintro e w' ⟨rfl, rfl⟩)
    go_ret2
    exact ⟨_, ret_sb HF.out.symm, by rw [HX.out]; exact Own.nil _ _, Below.refl _ _⟩
end Go.Proofs.Ytgfafnejgbblhab
