/- Contracts: both MixedAt functions. Conditions: the slice reads as a list of at most 2^20 numbers. -/
import Derived.Test.YtijjdidljoicfaaMix1
import Derived.Test.YtijjdidljoicfaaRow
namespace Go.Proofs.Ytijjdidljoicfaa
open Go.RowKit
set_option linter.unusedVariables false

def mxRes (xs : List Int) (r : Int) : List Int := if digB xs r = true then mixL xs r else []
theorem mxRes_yes {xs : List Int} {r : Int} (h : digB xs r = true) : mxRes xs r = mixL xs r := by unfold mxRes; rw [if_pos h]
theorem mxRes_no {xs : List Int} {r : Int} (h : digB xs r = false) : mxRes xs r = [] := by unfold mxRes; rw [if_neg (by rw [h]; simp)]
theorem bound_MixedAt (xs : List Int) (r : Int) : (mxRes xs r).length ≤ 1048576 := by
  cases h : digB xs r with
  | false => rw [mxRes_no h]; simp
  | true =>
    rw [mxRes_yes h, mixL_length]
    simp only [digB, Bool.and_eq_true] at h
    have := (basesB_iff.1 h.1).1
    omega
theorem digB_facts {xs : List Int} {r : Int} (h : digB xs r = true) : basesB xs = true ∧ xs.length ≤ 12 ∧ allBases xs = true ∧ prodL xs ≤ 1000000 ∧ 0 ≤ r ∧ r < prodL xs := by
  simp only [digB, Bool.and_eq_true] at h
  obtain ⟨h1, h2, h3⟩ := basesB_iff.1 h.1
  have h4 := inB_iff.1 h.2
  rw [prodTo_prodL] at h3 h4
  exact ⟨h.1, h1, h2, h3, h4.1, by omega⟩
theorem digB_eq {xs : List Int} {r : Int} (h : basesB xs = true) : digB xs r = inB r 0 (prodL xs - 1) := by
  rw [digB, h, prodTo_prodL]; rfl
/-- one round of the loop over the bases -/
theorem mix_round {xs : List Int} {k : Nat} {q r : Int} (hall : allBases xs = true) (hle : prodL xs ≤ 1000000) (hk : k < xs.length) (h0 : 0 ≤ q) (h1 : q < prodL (xs.drop k)) (hd : (mixL xs r).drop k = mixL (xs.drop k) q) :
    2 ≤ xs[k] ∧ xs[k] ≤ 12 ∧ prodL (xs.drop k) / xs[k] = prodL (xs.drop (k + 1)) ∧ 1 ≤ prodL (xs.drop (k + 1)) ∧ prodL (xs.drop (k + 1)) ≤ 1000000 ∧ prodL (xs.drop k) ≤ 1000000 ∧
    0 ≤ q / prodL (xs.drop (k + 1)) ∧ q / prodL (xs.drop (k + 1)) ≤ 1000000 ∧ 0 ≤ q % prodL (xs.drop (k + 1)) ∧ q % prodL (xs.drop (k + 1)) < prodL (xs.drop (k + 1)) ∧
    (mixL xs r).getD k 0 = q / prodL (xs.drop (k + 1)) ∧
    (mixL xs r).drop (k + 1) = mixL (xs.drop (k + 1)) (turnIf (q / prodL (xs.drop (k + 1))) (prodL (xs.drop (k + 1))) (q % prodL (xs.drop (k + 1)))) := by
  have hb := base_range hall hk
  rw [getD_at hk] at hb
  have ho := ones_of_bases hall
  have hp := prodL_pos (ones_drop ho (k + 1))
  have hp1 := prodL_drop_le ho (k + 1)
  have hp2 := prodL_drop_le ho k
  have hpd := prodL_drop hk
  rw [mixL_drop hk] at hd
  have hkl : k < (mixL xs r).length := by rw [mixL_length]; exact hk
  rw [List.drop_eq_getElem_cons hkl] at hd
  injection hd with hd1 hd2
  refine ⟨hb.1, hb.2, ?_, hp, by omega, by omega, Int.ediv_nonneg h0 (by omega), Int.le_trans (Int.ediv_le_self _ h0) (by omega), Int.emod_nonneg _ (by omega), Int.emod_lt_of_pos _ (by omega), ?_, hd2⟩
  · rw [hpd, Int.mul_ediv_cancel_left _ (by omega)]
  · rw [← hd1]; simp [List.getD_eq_getElem?_getD, hkl]
set_option maxHeartbeats 1000000 in
theorem impl_MixedAt_any (v : Value) (xs : List Int) (r : Int) (w : World) (h : Sits w v xs) (hl : xs.length ≤ 1048576) (_hwf : ∀ n ∈ xs, (Lit.int .i64 n).wf = true) (_hr : (Lit.int .i64 r).wf = true) :
    Calls Try.prog 53 #[v, .int .i64 r] w fun e w' => ∃ u, e = .returned (.tuple #[u, .bool (digB xs r)]) ∧ Own w' w.heap.size u (mxRes xs r) ∧ Below w.heap.size w w' := by
  have HS := hid h
  obtain ⟨b, off, c, rfl, hc1, hm, hb, hc⟩ := h
  have HC := hid hc
  clear hc
  by_cases h1 : basesB xs = true
  · obtain ⟨k1, k2, k3⟩ := basesB_iff.1 h1
    have HPR : Hid (prodRes xs = prodL xs) := by
      show prodRes xs = prodL xs
      rw [prodRes_yes h1, prodTo_prodL]
    rw [prodTo_prodL] at k3
    have k4 := prodL_pos (ones_of_bases k2)
    have HALL := hid k2
    have HLE := hid k3
    have HE := hid (digB_eq (r := r) h1)
    obtain ⟨p, hp⟩ : ∃ p, p = prodL xs := ⟨_, rfl⟩
    have HP := hid hp
    rw [← hp] at HPR k3 k4
    clear k2
    by_cases h2 : 0 ≤ r
    · by_cases h3 : r < p
      · have HF : Hid (digB xs r = true) := by
          show digB xs r = true
          rw [HE.out, ← hp]; simp [inB]; omega
        have HX := hid (mxRes_yes HF.out)
        have hmk := run_make_ints xs.length (by omega) w
        have HL := hid (mixL_length xs r)
        have HM := hid (rowTo_made (w := w) (mixL_length xs r))
        have HB0 := hid ((Below.refl w.heap.size w).alloc (Nat.le_refl _) (.cells (madeCells #[.int .i64 0] xs.length) 3))
        clear hp
        go_enter Try.func53, Try.ntmps53
        go_wp2_with (go_at_call 59; refine (productOf_any _ xs _ HS.out).mono ?_; rintro e w' ⟨rfl, rfl⟩; rw [HPR.out])
        clear hmk
        go_loopw [1, 6, 9, 10, 32] (fun rr pp _ _ i wr => ∃ k : Nat, k ≤ xs.length ∧ i = .int .i64 k ∧ ∃ q : Int, rr = .int .i64 q ∧ pp = .int .i64 (prodL (xs.drop k)) ∧ 0 ≤ q ∧ q < prodL (xs.drop k) ∧ (mixL xs r).drop k = mixL (xs.drop k) q ∧ wr.rowIs w.heap.size 3 (mixL xs r).length (fun j => .int .i64 (rowTo (mixL xs r) k j)) ∧ Below w.heap.size w wr) (fun _ _ _ _ i _ => xs.length - (intOf i).toNat)
        case atStart => exact ⟨0, Nat.zero_le _, rfl, r, rfl, by rw [List.drop_zero, ← HP.out], h2, by rw [List.drop_zero, ← HP.out]; exact h3, rfl, HM.out, HB0.out⟩
        case round =>
          obtain ⟨k, hk, rfl, q, rfl, rfl, hq0, hq1, hdr, hrow, hbel⟩ := hrel
          by_cases hlt : k < xs.length
          · obtain ⟨m1, m2, m3, m4, m5, m6, m7, m8, m9, m10, m11, m12⟩ := mix_round HALL.out HLE.out hlt hq0 hq1 hdr
            have hcx : wr.cell? ⟨b, off + k, none⟩ = some (.int .i64 xs[k]) := (hbel.cell (by exact hb)).trans (HC.out k hlt)
            have hf := hrow.frozen k
            obtain ⟨z, hz⟩ : ∃ z, wr.cell? ⟨w.heap.size, k, none⟩ = some z := ⟨_, hrow.cell (by rw [HL.out]; exact hlt)⟩
            obtain ⟨t, ht⟩ : ∃ t, t = turnIf (q / prodL (xs.drop (k + 1))) (prodL (xs.drop (k + 1))) (q % prodL (xs.drop (k + 1))) := ⟨_, rfl⟩
            have htr := turnIf_range (d := q / prodL (xs.drop (k + 1))) m9 m10
            rw [← ht] at m12 htr
            obtain ⟨P, hP⟩ : ∃ P, P = prodL (xs.drop k) := ⟨_, rfl⟩
            obtain ⟨S, hS⟩ : ∃ S, S = prodL (xs.drop (k + 1)) := ⟨_, rfl⟩
            rw [← hP] at m3 m6 hq1 ⊢
            rw [← hS] at m3 m4 m5 m7 m8 m9 m10 m11 ht htr
            obtain ⟨d, hd⟩ : ∃ d, d = q / S := ⟨_, rfl⟩
            obtain ⟨m, hm2⟩ : ∃ m, m = q % S := ⟨_, rfl⟩
            have u1 : q.tdiv S = d := by rw [Int.tdiv_eq_ediv_of_nonneg hq0, hd]
            have u2 : q.tmod S = m := by rw [Int.tmod_eq_emod_of_nonneg hq0, hm2]
            have u3 : q / S = d := hd.symm
            have u4 : q % S = m := hm2.symm
            rw [← hd] at m7 m8 m11 ht
            rw [← hm2] at m9 m10 ht
            have hP0 : 0 ≤ P := by omega
            have u5 : P.tdiv xs[k] = S := by rw [Int.tdiv_eq_ediv_of_nonneg hP0, m3]
            have w1 : IntKind.i64.wrap d = d := IntWalk.i64_in _ (by omega)
            have w2 : IntKind.i64.wrap m = m := IntWalk.i64_in _ (by omega)
            have w3 : d.tmod 2 = d % 2 := Int.tmod_eq_emod_of_nonneg m7
            have w4 : IntKind.i64.wrap (S - 1 - m) = S - 1 - m := IntWalk.i64_in _ (by omega)
            have w5 : IntKind.i64.wrap (S - 1) = S - 1 := IntWalk.i64_in _ (by omega)
            have w6 : IntKind.i64.wrap S = S := IntWalk.i64_in _ (by omega)
            have hne : (S == 0) = false := by simp; omega
            have hne2 : (xs[k] == 0) = false := by simp; omega
            have HSS := hid (rowTo_set (by rw [HL.out]; exact hlt) m11.symm hrow)
            have HB := hid (hbel.setCell (p := ⟨w.heap.size, k, none⟩) (Nat.le_refl _) (.int .i64 d))
            have HD := hid m12
            have HTT := hid ht
            have HTR := hid htr
            have HSd := hid hS
            clear hrow hbel m12 ht hS hP hdr hd hm2 htr m11
            by_cases ho : d % 2 = 1
            · have ho1 : (d % 2 == 1) = true := by simpa using ho
              have e1 : Hid (t = S - 1 - m) := by show t = _; rw [HTT.out, turnIf, if_pos ho]
              go_wp2
              go_roundw
              case rel => exact ⟨k + 1, by omega, by go_num, t, by rw [e1.out], by rw [HSd.out], HTR.out.1, by rw [← HSd.out]; exact HTR.out.2, HD.out, HSS.out, HB.out⟩
              case measure => simp [intOf]; omega
            · have ho1 : (d % 2 == 1) = false := by simpa using ho
              have e1 : Hid (t = m) := by show t = _; rw [HTT.out, turnIf, if_neg ho]
              go_wp2
              go_roundw
              case rel => exact ⟨k + 1, by omega, by go_num, t, by rw [e1.out], by rw [HSd.out], HTR.out.1, by rw [← HSd.out]; exact HTR.out.2, HD.out, HSS.out, HB.out⟩
              case measure => simp [intOf]; omega
          · obtain rfl : k = xs.length := by omega
            have HR := hid hrow
            clear hrow hdr hq1
            go_wp2
            go_ret2
            exact ⟨_, ret_sb7 HF.out.symm, by rw [HX.out]; exact rowTo_own HL.out hl HR.out, hbel⟩
      · have HF : Hid (digB xs r = false) := by
          show digB xs r = false
          rw [HE.out, ← hp]; simp [inB]; omega
        have HX := hid (mxRes_no HF.out)
        clear hp
        go_enter Try.func53, Try.ntmps53
        go_wp2_with (go_at_call 59; refine (productOf_any _ xs _ HS.out).mono ?_; rintro e w' ⟨rfl, rfl⟩; rw [HPR.out])
        go_ret2
        exact ⟨_, ret_sb7 HF.out.symm, by rw [HX.out]; exact Own.nil _ _, Below.refl _ _⟩
    · have HF : Hid (digB xs r = false) := by
        show digB xs r = false
        rw [HE.out, ← hp]; simp [inB]; omega
      have HX := hid (mxRes_no HF.out)
      clear hp
      go_enter Try.func53, Try.ntmps53
      go_wp2_with (go_at_call 59; refine (productOf_any _ xs _ HS.out).mono ?_; rintro e w' ⟨rfl, rfl⟩; rw [HPR.out])
      go_ret2
      exact ⟨_, ret_sb7 HF.out.symm, by rw [HX.out]; exact Own.nil _ _, Below.refl _ _⟩
  · have h1 : basesB xs = false := by simpa using h1
    have HF : Hid (digB xs r = false) := by
      show digB xs r = false
      rw [digB, h1]; rfl
    have HX := hid (mxRes_no HF.out)
    go_enter Try.func53, Try.ntmps53
    go_wp2_with (go_at_call 59; refine (productOf_any _ xs _ HS.out).mono ?_; rintro e w' ⟨rfl, rfl⟩)
    go_ret2
    exact ⟨_, ret_sb7 HF.out.symm, by rw [HX.out]; exact Own.nil _ _, Below.refl _ _⟩
end Go.Proofs.Ytijjdidljoicfaa
