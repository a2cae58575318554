/- Contracts: suPairs; both IsPairCycle functions. Conditions: slices that are not nil and read as lists. -/
import Derived.Test.YteimfdpkodcfbaaPair2
import Derived.BigQuiet
namespace Go.Proofs.Yteimfdpkodcfbaa
open Go.RowKit
set_option linter.unusedVariables false
set_option maxRecDepth 4000

theorem Try.infoBP : (Try.prog.info? 4).map (fun i => (i.zero, i.size, i.bytes)) = some (some (.bool false), 1, 1) := by kernel_rfl
theorem run_make_boolsP (n : Nat) (hn : n ≤ 1048576) (w : World) : Sem.run Try.prog (Instr.makeSlice 64 (.int .i64 n) (.int .i64 n)) w = .ok (.slice (some ⟨w.heap.size, 0, none⟩) n n) (w.alloc (.cells (madeCells #[.bool false] n) 4)) :=
  run_make_row' 64 4 (.bool false) 1 Try.underlying64 Try.infoBP rfl .i64 .i64 n (by omega) (by omega) w
theorem sq_bounds {n : Nat} (hn : inB (n : Int) 2 11 = true) : n * n ≤ 121 ∧ n * (n - 1) ≤ 110 ∧ (n : Int) * ((n : Int) - 1) = ((n * (n - 1) : Nat) : Int) ∧ (n : Int) * (n : Int) = ((n * n : Nat) : Int) := by
  have h := inB_iff.1 hn
  refine ⟨Nat.mul_le_mul (show n ≤ 11 by omega) (show n ≤ 11 by omega), Nat.mul_le_mul (show n ≤ 11 by omega) (show n - 1 ≤ 10 by omega), ?_, ?_⟩
  · rw [Int.natCast_mul, Int.natCast_sub (by omega)]; rfl
  · rw [Int.natCast_mul]
theorem round_two {w : World} {B : Nat} {u : Value} {xs : List Int} {k : Nat} {p q : Int} (h : Own w B u (arL xs k 2)) (hk : k < xs.length) (e1 : xs.getD k 0 = p) (e2 : nxW xs k = q) :
    ∃ g c, u = .slice (some ⟨g, 0, none⟩) 2 c ∧ 2 ≤ c ∧ c ≤ 9223372036854775807 ∧ g < w.heap.size ∧ B ≤ g ∧ w.cell? ⟨g, 0, none⟩ = some (.int .i64 p) ∧ w.cell? ⟨g, 1, none⟩ = some (.int .i64 q) := by
  rw [arL_two hk, e1, e2] at h
  obtain ⟨g, n, c, rfl⟩ := Own.shape h (by simp)
  obtain ⟨c0, c1, c2, c3, c4, c5, c6⟩ := Own_cells h
  simp at c0
  subst c0
  exact ⟨g, c, rfl, by simpa using c1, c2, c3, c4, by simpa using c5 0 (by simp), by simpa using c5 1 (by simp)⟩
theorem cme_step {xs : List Int} {k n p q pn qn : Nat} (e1 : xs.getD k 0 = (p : Int)) (e2 : nxW xs k = (q : Int)) (hp : p < n) (hq : q < n) (h1 : pn = p * n) (h2 : qn = q * n) (t : Nat) :
    cmeP xs (k + 1) ((t / n : Nat) : Int) ((t % n : Nat) : Int) = if t = qn + p then true else if t = pn + q then true else cmeP xs k ((t / n : Nat) : Int) ((t % n : Nat) : Int) := by
  have hd := Nat.div_add_mod t n
  have hm := Nat.mod_lt t (show n > 0 by omega)
  have key : ∀ a b : Nat, a < n → b < n → (t = a * n + b ↔ t / n = a ∧ t % n = b) := by
    intro a b ha hb
    constructor
    · rintro rfl
      exact ⟨by rw [Nat.mul_comm, Nat.mul_add_div (by omega), Nat.div_eq_of_lt hb, Nat.add_zero], by rw [Nat.mul_comm, Nat.mul_add_mod, Nat.mod_eq_of_lt hb]⟩
    · rintro ⟨rfl, rfl⟩
      rw [Nat.mul_comm]; omega
  rw [cmeP_succ, e1, e2, h1, h2]
  by_cases c1 : t = q * n + p
  · rw [if_pos c1]
    obtain ⟨k1, k2⟩ := (key q p hq hp).1 c1
    rw [k1, k2, show samP (p : Int) (q : Int) (q : Int) (p : Int) = true from samP_iff.2 (.inr ⟨rfl, rfl⟩), Bool.or_true]
  · rw [if_neg c1]
    by_cases c2 : t = p * n + q
    · rw [if_pos c2]
      obtain ⟨k1, k2⟩ := (key p q hp hq).1 c2
      rw [k1, k2, show samP (p : Int) (q : Int) (p : Int) (q : Int) = true from samP_iff.2 (.inl ⟨rfl, rfl⟩), Bool.or_true]
    · rw [if_neg c2]
      have : samP (p : Int) (q : Int) ((t / n : Nat) : Int) ((t % n : Nat) : Int) = false := by
        cases hs : samP (p : Int) (q : Int) ((t / n : Nat) : Int) ((t % n : Nat) : Int) with
        | false => rfl
        | true =>
          rcases samP_iff.1 hs with ⟨h3, h4⟩ | ⟨h3, h4⟩
          · exact absurd ((key p q hp hq).2 ⟨by omega, by omega⟩) c2
          · exact absurd ((key q p hq hp).2 ⟨by omega, by omega⟩) c1
      rw [this, Bool.or_false]
set_option maxHeartbeats 2000000 in
theorem suPairs_any (n : Nat) (v : Value) (xs : List Int) (w : World) (hn : inB (n : Int) 2 11 = true) (h : Sits w v xs) (hl : xs.length ≤ 200) :
    Calls Try.prog 87 #[.int .i64 (n : Int), v] w fun e w' => e = .returned (.bool (prB n xs)) ∧ Below w.heap.size w w' := by
  have HS := hid h
  obtain ⟨b, off, c, rfl, hc1, hm, hb, hc⟩ := h
  have HC := hid hc
  have hnn := inB_iff.1 hn
  obtain ⟨hP6, hM6, hme, hpe⟩ := sq_bounds hn
  obtain ⟨N, hN⟩ : ∃ N, N = n * (n - 1) / 2 := ⟨_, rfl⟩
  have HN := hid hN
  obtain ⟨M, hM⟩ : ∃ M, M = n * (n - 1) := ⟨_, rfl⟩
  obtain ⟨P, hP⟩ : ∃ P, P = n * n := ⟨_, rfl⟩
  rw [← hM] at hN hM6 hme
  rw [← hP] at hP6 hpe
  have HPP := hid hP
  have hmk := run_make_boolsP P (by omega) w
  have hq : (M : Int) / 2 = (N : Int) := by omega
  clear hc hM hP hN
  by_cases hlen : xs.length = N
  · have hne : ((xs.length : Int) != (N : Int)) = false := by simp; omega
    have HLEN := hid hlen
    have HPR := hid (show prB n xs = (belowB xs n && allTo xs.length (newP xs)) by unfold prB; rw [decide_eq_true (by rw [HLEN.out]; exact HN.out), Bool.true_and])
    clear hlen
    have HBL := hid (show belowB xs n = belowB xs n from rfl)
    cases hbw : belowB xs n with
    | false =>
      rw [hbw] at HPR
      have HAL := hid (show allTo xs.length (fun i => inB (xs.getD i 0) 0 ((n : Int) - 1)) = false from hbw)
      clear hbw
      go_enter Try.func87, Try.ntmps87
      go_wp2_with (first | (go_at_call 110; (refine (l1All_any _ xs _ _ _ HS.out).mono ?_); (rintro e w' ⟨rfl, rfl⟩); (rw [HAL.out])) | fail)
      go_ret
      exact ⟨ret_bool (by rw [HPR.out, Bool.false_and]), Below.refl _ _⟩
    | true =>
      rw [hbw] at HPR
      have HAL := hid (show allTo xs.length (fun i => inB (xs.getD i 0) 0 ((n : Int) - 1)) = true from hbw)
      have HIN := hid ((allTo_iff _ _).1 HAL.out)
      clear hbw
      have HM := hid (World.rowIs_made w (.bool false) P 4)
      have HB0 := hid ((Below.refl w.heap.size w).alloc (Nat.le_refl _) (.cells (madeCells #[.bool false] P) 4))
      go_enter Try.func87, Try.ntmps87
      go_wp2_with (first | (go_at_call 110; (refine (l1All_any _ xs _ _ _ HS.out).mono ?_); (rintro e w' ⟨rfl, rfl⟩); (rw [HAL.out])) | fail)
      clear hmk
      go_loopw [6, 7, 29] (fun _ _ i wr => ∃ k : Nat, k ≤ xs.length ∧ i = .int .i64 (k : Int) ∧ allTo k (newP xs) = true ∧ wr.rowIs w.heap.size 4 P (fun t => .bool (cmeP xs k ((t / n : Nat) : Int) ((t % n : Nat) : Int))) ∧ Below w.heap.size w wr) (fun _ _ i _ => xs.length - (intOf i).toNat)
      case atStart => exact ⟨0, Nat.zero_le _, rfl, rfl, HM.out.congr (fun i hi => by simp [cmeP]), HB0.out⟩
      case round =>
        obtain ⟨k, hk, rfl, hall, hrow, hbel⟩ := hrel
        have HA := hid hall
        have HB := hid hbel
        have HROW := hid hrow
        clear hall
        by_cases hlt : k < xs.length
        · have h1x : 1 ≤ xs.length := by omega
          have hl6 : xs.length ≤ 1048576 := by omega
          have hk6 : k ≤ 1048576 := by omega
          have hp0 := inB_iff.1 (HIN.out k hlt)
          have hq0 := inB_iff.1 (HIN.out ((k + 1) % xs.length) (Nat.mod_lt _ (by omega)))
          obtain ⟨p, hp⟩ : ∃ p : Nat, xs.getD k 0 = (p : Int) := ⟨(xs.getD k 0).toNat, by omega⟩
          obtain ⟨q, hqq⟩ : ∃ q : Nat, nxW xs k = (q : Int) := ⟨(nxW xs k).toNat, by unfold nxW; omega⟩
          have hp1 : p < n := by omega
          have hq1 : q < n := by unfold nxW at hqq; omega
          obtain ⟨pn, hpn⟩ : ∃ pn, pn = p * n := ⟨_, rfl⟩
          obtain ⟨qn, hqn⟩ : ∃ qn, qn = q * n := ⟨_, rfl⟩
          have hpni : (p : Int) * (n : Int) = (pn : Int) := by rw [hpn, Int.natCast_mul]
          have hqni : (q : Int) * (n : Int) = (qn : Int) := by rw [hqn, Int.natCast_mul]
          have hpn2 : pn + q < P := by
            rw [HPP.out, hpn]
            have := Nat.mul_le_mul_right n (show p + 1 ≤ n by omega)
            rw [Nat.succ_mul] at this
            omega
          have hqn2 : qn + p < P := by
            rw [HPP.out, hqn]
            have := Nat.mul_le_mul_right n (show q + 1 ≤ n by omega)
            rw [Nat.succ_mul] at this
            omega
          have hst := fun t => cme_step hp hqq hp1 hq1 hpn hqn t
          have HE1 := hid hp
          have HE2 := hid hqq
          have hsk := HS.out.below hbel
          have HSK := hid hsk
          have hcv : cmeP xs k (((pn + q) / n : Nat) : Int) (((pn + q) % n : Nat) : Int) = cmeP xs k (p : Int) (q : Int) := by
            rw [hpn, Nat.mul_comm, Nat.mul_add_div (by omega), Nat.div_eq_of_lt hq1, Nat.add_zero, Nat.mul_add_mod, Nat.mod_eq_of_lt hq1]
          obtain ⟨i1, hi1⟩ : ∃ i1, i1 = pn + q := ⟨_, rfl⟩
          obtain ⟨i2, hi2⟩ : ∃ i2, i2 = qn + p := ⟨_, rfl⟩
          rw [← hi1] at hcv hpn2
          rw [← hi2] at hqn2
          rw [← hi1, ← hi2] at hst
          have HST := hid hst
          have hii1 : (pn : Int) + (q : Int) = (i1 : Int) := by omega
          have hii2 : (qn : Int) + (p : Int) = (i2 : Int) := by omega
          have hcell := hrow.cell hpn2
          rw [hcv] at hcell
          have HCL := hid hcell
          have HWL := hid hrow.lt
          clear hrow hbel hp hqq hpn hqn hsk hp0 hq0 hcell hcv hi1 hi2 hst
          by_cases hpq : p = q
          · have HF := hid (show prB n xs = false by
              rw [HPR.out, Bool.true_and]
              refine allTo_no hlt ?_
              unfold newP
              rw [HE1.out, HE2.out, hpq]; simp)
            have hdec : ((p : Int) == (q : Int)) = true := by simp; omega
            go_wp2_with (first
              | (go_at_call 94; (refine (suRound_any _ xs k 2 _ HSK.out h1x hl6 hk6 (by omega)).mono ?_); (rintro e w1 ⟨u, rfl, ho, hb1⟩); (obtain ⟨g5, c5, rfl, hc51, hc52, hg1, hg2, x0, x1⟩ := round_two ho hlt HE1.out HE2.out); (have HB1 := hid (Below_chain HB.out hb1)); (clear ho hb1))
              | fail)
            go_quiet (fail)
            go_wp2_with fail
            go_ret
            exact ⟨ret_bool HF.out.symm, below_drewN HB1.out _⟩
          · have hdec : ((p : Int) == (q : Int)) = false := by simp; omega
            cases hcm : cmeP xs k (p : Int) (q : Int) with
            | true =>
              have HF := hid (show prB n xs = false by
                rw [HPR.out, Bool.true_and]
                refine allTo_no hlt ?_
                unfold newP
                rw [HE1.out, HE2.out, hcm]; simp)
              go_wp2_with (first
                | (go_at_call 94; (refine (suRound_any _ xs k 2 _ HSK.out h1x hl6 hk6 (by omega)).mono ?_); (rintro e w1 ⟨u, rfl, ho, hb1⟩); (obtain ⟨g5, c5, rfl, hc51, hc52, hg1, hg2, x0, x1⟩ := round_two ho hlt HE1.out HE2.out); (have HB1 := hid (Below_chain HB.out hb1)); (have hcs := (hb1.cell (p := ⟨w.heap.size, i1, none⟩) (by exact HWL.out)).trans HCL.out); (have HR1 := hid (HROW.out.of_block (hb1.block w.heap.size HWL.out))); (rw [hcm] at hcs); (clear ho hb1))
                | fail)
              go_quiet (fail)
              go_wp2_with fail
              go_ret
              exact ⟨ret_bool HF.out.symm, below_drewN HB1.out _⟩
            | false =>
              have HNW := hid (show newP xs k = true by
                unfold newP
                rw [HE1.out, HE2.out, hcm, hdec]; rfl)
              go_wp2_with (first
                | (go_at_call 94; (refine (suRound_any _ xs k 2 _ HSK.out h1x hl6 hk6 (by omega)).mono ?_); (rintro e w1 ⟨u, rfl, ho, hb1⟩); (obtain ⟨g5, c5, rfl, hc51, hc52, hg1, hg2, x0, x1⟩ := round_two ho hlt HE1.out HE2.out); (have HB1 := hid (Below_chain HB.out hb1)); (have hcs := (hb1.cell (p := ⟨w.heap.size, i1, none⟩) (by exact HWL.out)).trans HCL.out); (have HR1 := hid (HROW.out.of_block (hb1.block w.heap.size HWL.out))); (rw [hcm] at hcs); (clear ho hb1))
                | fail)
              go_quiet (fail)
              clear hcm
              go_wp2_with fail
              have hcne : ∀ y : Nat, ⟨g5, y, none⟩ ≠ (⟨w.heap.size, i1, none⟩ : Addr) := fun y e => by injection e; have := HWL.out; omega
              have hcne2 : ∀ y : Nat, ⟨g5, y, none⟩ ≠ (⟨w.heap.size, i2, none⟩ : Addr) := fun y e => by injection e; have := HWL.out; omega
              have HX0 := hid (show (w1.drewN nq).cell? ⟨g5, 0, none⟩ = some (.int .i64 (p : Int)) from x0)
              have HX1 := hid (show (w1.drewN nq).cell? ⟨g5, 1, none⟩ = some (.int .i64 (q : Int)) from x1)
              have HR2 := hid (HR1.out.of_block (w' := w1.drewN nq) rfl)
              have HB2 := hid (below_drewN HB1.out nq)
              obtain ⟨W, hW⟩ : ∃ W, W = w1.drewN nq := ⟨_, rfl⟩
              rw [← hW] at HX0 HX1 HR2 HB2 ⊢
              clear hW x0 x1 hcs HR1
              have y0 := HX0.out
              have y1 := HX1.out
              have hz1 := HR2.out.cell hpn2
              have hf1 := HR2.out.frozen i1
              obtain ⟨z, hz⟩ : ∃ z, W.cell? ⟨w.heap.size, i1, none⟩ = some z := ⟨_, hz1⟩
              clear hz1
              have v1 : IntKind.i64.wrap (pn : Int) = (pn : Int) := IntWalk.i64_in _ (by omega)
              have v2 : IntKind.i64.wrap (i1 : Int) = (i1 : Int) := IntWalk.i64_in _ (by omega)
              have v3 : IntKind.i64.wrap (qn : Int) = (qn : Int) := IntWalk.i64_in _ (by omega)
              have v4 : IntKind.i64.wrap (i2 : Int) = (i2 : Int) := IntWalk.i64_in _ (by omega)
              have v5 : (0 : Int) ≤ (i1 : Int) := by omega
              have v6 : (i1 : Int) < (P : Int) := by omega
              have v7 : (0 : Int) ≤ (i2 : Int) := by omega
              have v8 : (i2 : Int) < (P : Int) := by omega
              go_region_law (fail)
              all_goals
                have y0' : (W.setCell ⟨w.heap.size, i1, none⟩ (.bool true)).drew.cell? ⟨g5, 0, none⟩ = some (.int .i64 (p : Int)) := (World.cell?_setCell_other _ _ _ _ (Ne.symm (hcne 0))).trans HX0.out
                have y1' : (W.setCell ⟨w.heap.size, i1, none⟩ (.bool true)).drew.cell? ⟨g5, 1, none⟩ = some (.int .i64 (q : Int)) := (World.cell?_setCell_other _ _ _ _ (Ne.symm (hcne 1))).trans HX1.out
                have HR3 := hid ((HR2.out.set i1 (.bool true)).of_block (w' := (W.setCell ⟨w.heap.size, i1, none⟩ (.bool true)).drew) rfl)
                have HB3 := hid (Below.drew (HB2.out.setCell (p := ⟨w.heap.size, i1, none⟩) (Nat.le_refl _) (.bool true)))
                clear hz hf1 y0 y1 HX0 HX1
                obtain ⟨W2, hW2⟩ : ∃ W2, W2 = (W.setCell ⟨w.heap.size, i1, none⟩ (.bool true)).drew := ⟨_, rfl⟩
                rw [← hW2] at y0' y1' HR3 HB3 ⊢
                have hz2 := HR3.out.cell hqn2
                have hf2 := HR3.out.frozen i2
                obtain ⟨z2, hz2⟩ : ∃ z, W2.cell? ⟨w.heap.size, i2, none⟩ = some z := ⟨_, hz2⟩
                clear hW2 hcne hcne2
                go_wp2_with fail
                go_region_law (fail)
                all_goals
                  have HR4 := hid ((HR3.out.set i2 (.bool true)).of_block (w' := (W2.setCell ⟨w.heap.size, i2, none⟩ (.bool true)).drew) rfl)
                  have HB4 := hid (Below.drew (HB3.out.setCell (p := ⟨w.heap.size, i2, none⟩) (Nat.le_refl _) (.bool true)))
                  obtain ⟨W3, hW3⟩ : ∃ W3, W3 = (W2.setCell ⟨w.heap.size, i2, none⟩ (.bool true)).drew := ⟨_, rfl⟩
                  rw [← hW3] at HR4 HB4 ⊢
                  clear hW3 hz2 hf2 y0' y1'
                  go_wp2_with fail
                  go_roundw
                  case rel => exact ⟨k + 1, by omega, by go_num, allTo_next HA.out HNW.out, HR4.out.congr (fun t ht => by
                    rw [HST.out t]
                    by_cases c1 : t = i2
                    · rw [if_pos c1, if_pos c1]
                    · rw [if_neg c1, if_neg c1]
                      by_cases c2 : t = i1
                      · rw [if_pos c2, if_pos c2]
                      · rw [if_neg c2, if_neg c2]), HB4.out⟩
                  case measure => simp [intOf]; omega
        · obtain rfl : k = xs.length := by omega
          have HF := hid (show prB n xs = true by rw [HPR.out, Bool.true_and]; exact HA.out)
          clear hrow hbel
          go_wp2_with fail
          go_ret
          exact ⟨ret_bool HF.out.symm, HB.out⟩
  · have hne : ((xs.length : Int) != (N : Int)) = true := by simp; omega
    have HF := hid (show prB n xs = false by unfold prB; rw [decide_eq_false (by rw [← HN.out]; exact hlen), Bool.false_and])
    clear hlen
    go_enter Try.func87, Try.ntmps87
    go_wp2_with fail
    go_ret
    exact ⟨ret_bool HF.out.symm, Below.refl _ _⟩
end Go.Proofs.Yteimfdpkodcfbaa
