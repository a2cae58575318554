/- Contracts: gcMixedRank and both MixedRank functions. Conditions: the slices read as lists of at most 2^20 numbers. -/
import Derived.Test.YtijjdidljoicfaaMix2
namespace Go.Proofs.Ytijjdidljoicfaa
open Go.RowKit
set_option linter.unusedVariables false

def mrV (xs ys : List Int) : Int := if rankB xs ys = true then mixR xs ys else 0
theorem mrV_yes {xs ys : List Int} (h : rankB xs ys = true) : mrV xs ys = mixR xs ys := by unfold mrV; rw [if_pos h]
theorem mrV_no {xs ys : List Int} (h : rankB xs ys = false) : mrV xs ys = 0 := by unfold mrV; rw [if_neg (by rw [h]; simp)]
theorem okDig_tail {x y : Int} {bs ds : List Int} (h : okDig (x :: bs) (y :: ds)) : 0 ≤ y ∧ y < x ∧ okDig bs ds := ⟨h.1.1, h.1.2, h.2⟩
/-- The facts on one digit in front. -/
theorem mixR_facts {x y : Int} {bs ds : List Int} (h : allBases (x :: bs) = true) (hP : prodL (x :: bs) ≤ 1000000) (hd : okDig (x :: bs) (y :: ds)) :
    1 ≤ prodL bs ∧ prodL bs ≤ 1000000 ∧ 0 ≤ mixR bs ds ∧ mixR bs ds < prodL bs ∧ 0 ≤ y ∧ y ≤ 12 ∧ 0 ≤ y * prodL bs ∧ y * prodL bs ≤ 12000000 := by
  have ho := ones_of_bases h
  obtain ⟨t1, t2, t3⟩ := tail_bases h
  obtain ⟨d1, d2, d3⟩ := okDig_tail hd
  have h2 := prodL_pos (ones_tail ho).2
  have h3 := prodL_tail ho
  obtain ⟨r1, r2⟩ := mixR_range (ones_tail ho).2 d3
  have hm := Int.mul_le_mul (show y ≤ 12 by omega) (show prodL bs ≤ 1000000 by omega) (by omega) (by omega)
  exact ⟨h2, by omega, r1, r2, d1, by omega, Int.mul_nonneg d1 (by omega), by omega⟩
set_option maxHeartbeats 1000000 in
theorem gcMixedRank_any (xs : List Int) : ∀ (ys : List Int) (v u : Value) (w : World), Sits w v xs → Sits w u ys → xs.length ≤ 12 → allBases xs = true → prodL xs ≤ 1000000 → okDig xs ys →
    Calls Try.prog 84 #[v, u] w fun e w' => e = .returned (.int .i64 (mixR xs ys)) ∧ ∃ q, w' = w.drewN q := by
  induction xs with
  | nil =>
    rintro ys v u w ⟨b, off, c, rfl, hc1, hm, hb, hc⟩ _ _ _ _ hd
    have HY : Hid (mixR [] ys = 0) := by show _ = _; rfl
    go_enter Try.func84, Try.ntmps84
    go_wp2_with fail
    go_ret
    exact ⟨ret_int HY.out.symm, 0, rfl⟩
  | cons x bs ih =>
    intro ys v u w hv hu hl12 hall hP hd
    cases ys with
    | nil => simp [okDig] at hd
    | cons y ds =>
      obtain ⟨b, off, c, rfl, hc1, hm, hb, hc⟩ := hv
      obtain ⟨b', off', c', rfl, hc1', hm', hb', hc'⟩ := hu
      obtain ⟨ht1, ht2, ht3⟩ := tail_bases hall
      obtain ⟨f1, f2, f3, f4, f5, f6, f7, f8⟩ := mixR_facts hall hP hd
      have HALL := hid ht1
      have HD := hid hd.2
      have HLD := hid ((okDig_iff.1 hd.2).1)
      have HT1 := hid (sits_tail hb hc1 hm hc)
      have HT2 := hid (sits_tail hb' hc1' hm' hc')
      have hcy : w.cell? ⟨b', off', none⟩ = some (.int .i64 y) := by
        have h0 := hc' 0 (by simp)
        rw [Nat.add_zero] at h0
        exact h0
      have hX : mixR (x :: bs) (y :: ds) = y * prodL bs + turnIf y (prodL bs) (mixR bs ds) := rfl
      obtain ⟨S, hS⟩ : ∃ S, S = prodL bs := ⟨_, rfl⟩
      obtain ⟨m, hmm⟩ : ∃ m, m = mixR bs ds := ⟨_, rfl⟩
      have HS2 := hid (show prodL bs ≤ 1000000 from f2)
      have HPR : Hid (∀ (v : Value) (w : World), Sits w v bs → Calls Try.prog 49 #[v] w fun e w' => e = .returned (.int .i64 S) ∧ w = w') := by
        show ∀ _ _ _, _
        intro v w h
        rw [hS]
        exact raProduct_is v bs w h HALL.out HS2.out
      have HRC : Hid (∀ (v u : Value) (w : World), Sits w v bs → Sits w u ds → Calls Try.prog 84 #[v, u] w fun e w' => e = .returned (.int .i64 m) ∧ ∃ q, w' = w.drewN q) := by
        show ∀ _ _ _ _ _, _
        intro v u w h h'
        rw [hmm]
        exact ih ds v u w h h' (by simp at hl12; omega) HALL.out HS2.out HD.out
      rw [← hS, ← hmm] at hX
      rw [← hS] at f1 f2 f4 f7 f8
      rw [← hmm] at f3 f4
      have HX := hid hX
      have hne2 : ((bs.length : Int) + 1 == 0) = false := by simp; omega
      have hcc : bs.length + 1 ≤ c := hc1
      have hcc' : ds.length + 1 ≤ c' := hc1'
      have hlen : (x :: bs).length = bs.length + 1 := rfl
      have hlen' : (y :: ds).length = ds.length + 1 := rfl
      rw [hlen, hlen']
      have w3 : y.tmod 2 = y % 2 := Int.tmod_eq_emod_of_nonneg f5
      have w4 : IntKind.i64.wrap (S - 1 - m) = S - 1 - m := IntWalk.i64_in _ (by omega)
      have w5 : IntKind.i64.wrap (S - 1) = S - 1 := IntWalk.i64_in _ (by omega)
      have w6 : IntKind.i64.wrap (y * S) = y * S := IntWalk.i64_in _ (by omega)
      have w7 : IntKind.i64.wrap (y * S + (S - 1 - m)) = y * S + (S - 1 - m) := IntWalk.i64_in _ (by omega)
      have w8 : IntKind.i64.wrap (y * S + m) = y * S + m := IntWalk.i64_in _ (by omega)
      have q1 : (0 : Int) < (ds.length : Int) + 1 := by omega
      have q2 : 0 < ds.length + 1 := by omega
      clear hc hc' hX hS hmm ih hc1 hc1' hlen hlen' hP hall ht1 hd hl12
      have hfin : ∀ t : Int, t = turnIf y S m → mixR (x :: bs) (y :: ds) = y * S + t := fun t e => by rw [HX.out, e]
      have HFIN := hid hfin
      clear hfin
      have HBS : Hid (c = 1 → bs = []) := by show _ → _; intro e; exact List.eq_nil_of_length_eq_zero (by omega)
      have HDS : Hid (c' = 1 → ds = []) := by show _ → _; intro e; exact List.eq_nil_of_length_eq_zero (by omega)
      by_cases ho : y % 2 = 1
      · have ho1 : (y % 2 == 1) = true := by simpa using ho
        have HO := hid ho
        clear ho
        by_cases hcap : c = 1
        · obtain rfl := HBS.out hcap
          have hds0 : ds = [] := List.eq_nil_of_length_eq_zero (by have := HLD.out; simpa using this)
          subst hds0
          subst hcap
          have HA0 := hid (sits_none (off := off) hb)
          by_cases hcap' : c' = 1
          · subst hcap'
            have HB0 := hid (sits_none (off := off') hb')
            go_enter Try.func84, Try.ntmps84
            go_wp2_with (first | (go_at_call 49; refine (HPR.out _ _ HA0.out).mono ?_; rintro e w' ⟨rfl, rfl⟩) | fail)
            go_quiet ((first | (go_at_call 84; exact Calls.quiet_of (HRC.out _ _ _ (HA0.out.below (below_drewN (Below.refl _ _) _)) (HB0.out.below (below_drewN (Below.refl _ _) _))))))
            go_wp2_with fail
            go_ret
            exact ⟨ret_int (HFIN.out (S - 1 - m) (by rw [turnIf, if_pos HO.out])).symm, _, rfl⟩
          · have q3 : (1 : Int) ≤ 1 := by omega
            have q4 : (1 : Int) ≤ (c' : Int) := by omega
            have q5 : 1 ≤ c' := by omega
            go_enter Try.func84, Try.ntmps84
            go_wp2_with (first | (go_at_call 49; refine (HPR.out _ _ HA0.out).mono ?_; rintro e w' ⟨rfl, rfl⟩) | fail)
            go_quiet ((first | (go_at_call 84; exact Calls.quiet_of (HRC.out _ _ _ (HA0.out.below (below_drewN (Below.refl _ _) _)) (HT2.out.below (below_drewN (Below.refl _ _) _))))))
            go_wp2_with fail
            go_ret
            exact ⟨ret_int (HFIN.out (S - 1 - m) (by rw [turnIf, if_pos HO.out])).symm, _, rfl⟩
        · have p1 : (1 : Int) ≤ (bs.length : Int) + 1 := by omega
          have p2 : (1 : Int) ≤ (c : Int) := by omega
          have p3 : 1 ≤ c := by omega
          have p4 : (bs.length : Int) + 1 ≤ (c : Int) := by omega
          by_cases hcap' : c' = 1
          · have hds0 : ds = [] := HDS.out hcap'
            subst hds0
            subst hcap'
            have HB0 := hid (sits_none (off := off') hb')
            go_enter Try.func84, Try.ntmps84
            go_wp2_with (first | (go_at_call 49; refine (HPR.out _ _ HT1.out).mono ?_; rintro e w' ⟨rfl, rfl⟩) | fail)
            go_quiet ((first | (go_at_call 84; exact Calls.quiet_of (HRC.out _ _ _ (HT1.out.below (below_drewN (Below.refl _ _) _)) (HB0.out.below (below_drewN (Below.refl _ _) _))))))
            go_wp2_with fail
            go_ret
            exact ⟨ret_int (HFIN.out (S - 1 - m) (by rw [turnIf, if_pos HO.out])).symm, _, rfl⟩
          · have q3 : (1 : Int) ≤ (ds.length : Int) + 1 := by omega
            have q4 : (1 : Int) ≤ (c' : Int) := by omega
            have q5 : 1 ≤ c' := by omega
            have q6 : (ds.length : Int) + 1 ≤ (c' : Int) := by omega
            go_enter Try.func84, Try.ntmps84
            go_wp2_with (first | (go_at_call 49; refine (HPR.out _ _ HT1.out).mono ?_; rintro e w' ⟨rfl, rfl⟩) | fail)
            go_quiet ((first | (go_at_call 84; exact Calls.quiet_of (HRC.out _ _ _ (HT1.out.below (below_drewN (Below.refl _ _) _)) (HT2.out.below (below_drewN (Below.refl _ _) _))))))
            go_wp2_with fail
            go_ret
            exact ⟨ret_int (HFIN.out (S - 1 - m) (by rw [turnIf, if_pos HO.out])).symm, _, rfl⟩
      · have ho1 : (y % 2 == 1) = false := by simpa using ho
        have HO := hid ho
        clear ho
        by_cases hcap : c = 1
        · obtain rfl := HBS.out hcap
          have hds0 : ds = [] := List.eq_nil_of_length_eq_zero (by have := HLD.out; simpa using this)
          subst hds0
          subst hcap
          have HA0 := hid (sits_none (off := off) hb)
          by_cases hcap' : c' = 1
          · subst hcap'
            have HB0 := hid (sits_none (off := off') hb')
            go_enter Try.func84, Try.ntmps84
            go_wp2_with (first | (go_at_call 49; refine (HPR.out _ _ HA0.out).mono ?_; rintro e w' ⟨rfl, rfl⟩) | fail)
            go_quiet ((first | (go_at_call 84; exact Calls.quiet_of (HRC.out _ _ _ (HA0.out.below (below_drewN (Below.refl _ _) _)) (HB0.out.below (below_drewN (Below.refl _ _) _))))))
            go_wp2_with fail
            go_ret
            exact ⟨ret_int (HFIN.out (m) (by rw [turnIf, if_neg HO.out])).symm, _, rfl⟩
          · have q3 : (1 : Int) ≤ 1 := by omega
            have q4 : (1 : Int) ≤ (c' : Int) := by omega
            have q5 : 1 ≤ c' := by omega
            go_enter Try.func84, Try.ntmps84
            go_wp2_with (first | (go_at_call 49; refine (HPR.out _ _ HA0.out).mono ?_; rintro e w' ⟨rfl, rfl⟩) | fail)
            go_quiet ((first | (go_at_call 84; exact Calls.quiet_of (HRC.out _ _ _ (HA0.out.below (below_drewN (Below.refl _ _) _)) (HT2.out.below (below_drewN (Below.refl _ _) _))))))
            go_wp2_with fail
            go_ret
            exact ⟨ret_int (HFIN.out (m) (by rw [turnIf, if_neg HO.out])).symm, _, rfl⟩
        · have p1 : (1 : Int) ≤ (bs.length : Int) + 1 := by omega
          have p2 : (1 : Int) ≤ (c : Int) := by omega
          have p3 : 1 ≤ c := by omega
          have p4 : (bs.length : Int) + 1 ≤ (c : Int) := by omega
          by_cases hcap' : c' = 1
          · have hds0 : ds = [] := HDS.out hcap'
            subst hds0
            subst hcap'
            have HB0 := hid (sits_none (off := off') hb')
            go_enter Try.func84, Try.ntmps84
            go_wp2_with (first | (go_at_call 49; refine (HPR.out _ _ HT1.out).mono ?_; rintro e w' ⟨rfl, rfl⟩) | fail)
            go_quiet ((first | (go_at_call 84; exact Calls.quiet_of (HRC.out _ _ _ (HT1.out.below (below_drewN (Below.refl _ _) _)) (HB0.out.below (below_drewN (Below.refl _ _) _))))))
            go_wp2_with fail
            go_ret
            exact ⟨ret_int (HFIN.out (m) (by rw [turnIf, if_neg HO.out])).symm, _, rfl⟩
          · have q3 : (1 : Int) ≤ (ds.length : Int) + 1 := by omega
            have q4 : (1 : Int) ≤ (c' : Int) := by omega
            have q5 : 1 ≤ c' := by omega
            have q6 : (ds.length : Int) + 1 ≤ (c' : Int) := by omega
            go_enter Try.func84, Try.ntmps84
            go_wp2_with (first | (go_at_call 49; refine (HPR.out _ _ HT1.out).mono ?_; rintro e w' ⟨rfl, rfl⟩) | fail)
            go_quiet ((first | (go_at_call 84; exact Calls.quiet_of (HRC.out _ _ _ (HT1.out.below (below_drewN (Below.refl _ _) _)) (HT2.out.below (below_drewN (Below.refl _ _) _))))))
            go_wp2_with fail
            go_ret
            exact ⟨ret_int (HFIN.out (m) (by rw [turnIf, if_neg HO.out])).symm, _, rfl⟩
end Go.Proofs.Ytijjdidljoicfaa
