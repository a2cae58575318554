/- Contract: areAllOnce. Conditions: k <= n <= 12; the slice is not nil, nor are its rows, and it reads as a list of at most 1100 combinations of n. -/
import Derived.Test.YtijjdidljoicfaaOnceC
import Derived.Test.YtijjdidljoicfaaCol2
import Derived.Test.YtijjdidljoicfaaSSL
namespace Go.Proofs.Ytijjdidljoicfaa
open Go.RowKit
set_option linter.unusedVariables false

theorem Try.infoB7 : (Try.prog.info? 4).map (fun i => (i.zero, i.size, i.bytes)) = some (some (.bool false), 1, 1) := by kernel_rfl
theorem run_make_bools7 (n : Nat) (hn : n ≤ 1048576) (w : World) : Sem.run Try.prog (Instr.makeSlice 57 (.int .i64 n) (.int .i64 n)) w = .ok (.slice (some ⟨w.heap.size, 0, none⟩) n n) (w.alloc (.cells (madeCells #[.bool false] n) 4)) :=
  run_make_row' 57 4 (.bool false) 1 Try.underlying57 Try.infoB7 rfl .i64 .i64 n (by omega) (by omega) w
theorem comb12 {n : Nat} {xs : List Int} (hn : n ≤ 12) (h : combB n xs = true) : combB 12 xs = true := by
  simp only [combB, Bool.and_eq_true, decide_eq_true_eq] at h ⊢
  obtain ⟨⟨h1, h2⟩, h3⟩ := h
  refine ⟨⟨rfl, by omega⟩, ?_⟩
  unfold risingB at h3 ⊢
  rw [allTo_iff] at h3 ⊢
  intro i hi
  have := h3 i hi
  unfold riseAt at this ⊢
  rw [Bool.and_eq_true] at this ⊢
  refine ⟨?_, this.2⟩
  have := inB_iff.1 this.1
  exact inB_iff.2 ⟨this.1, by omega⟩
theorem comb_wf {n : Int} {xs : List Int} (h : combB n xs = true) : ∀ x ∈ xs, (Lit.int .i64 x).wf = true := by
  intro x hx
  obtain ⟨i, hi, rfl⟩ := List.mem_iff_getElem.1 hx
  have h1 := (Rises_comb h).1.1 i hi
  have h2 := (Rises_comb h).2.2
  rw [getD_at hi] at h1
  have e1 : IntKind.i64.min = -9223372036854775808 := rfl
  have e2 : IntKind.i64.max = 9223372036854775807 := rfl
  simp only [Lit.wf, Bool.and_eq_true, decide_eq_true_eq, e1, e2]
  omega
theorem colRes_crk {n k : Nat} {L : List (List Int)} {i : Nat} {l : List Int} (hn : n ≤ 12) (hl : L.getD i [] = l) (hc : combB n l = true) (hk : l.length = k) : colRes l = crk k L i := by
  rw [colRes_yes (comb12 hn hc), crk, hl, hk]
set_option maxHeartbeats 1000000 in
theorem areAllOnce_any (n k : Nat) (hn : n ≤ 12) (hk : k ≤ n) (v : Value) (L : List (List Int)) (w : World) (h : SitsL w v L) (hL : L.length ≤ 1100) (hcb : ∀ l ∈ L, combB n l = true) :
    Calls Try.prog 110 #[.int .i64 n, .int .i64 k, v] w fun e w' => e = .returned (.bool (chaB n k L)) ∧ Below w.heap.size w w' := by
  have HE := hid (all_once hn hk hcb)
  have hch : (chooseZ n k : Int) = (binom n k : Int) := by rw [chooseZ_nat n k (by omega) (by omega)]
  obtain ⟨b, off, c, rfl, hc1, hm, hb0, hc⟩ := h
  have HC := hid hc
  have HCB := hid hcb
  have HCH := hid hch
  clear hc hcb hch
  by_cases hl : L.length = binom n k
  · have HV := hid (show allTo L.length (oneK k L) = chaB n k L by rw [← HE.out, decide_eq_true hl, Bool.true_and])
    have hbb : ((L.length : Int) != (binom n k : Int)) = false := by rw [hl]; simp
    have HBI := hid hl
    have hmk := run_make_bools7 L.length (by omega) w
    have HM := hid (World.rowIs_made w (.bool false) L.length 4)
    have HB0 := hid ((Below.refl w.heap.size w).alloc (Nat.le_refl _) (.cells (madeCells #[.bool false] L.length) 4))
    clear hl
    go_enter Try.func110, Try.ntmps110
    go_wp2_with (first | (go_at_call 66; refine (choose_any _ _ _ (by omega) (by omega)).mono ?_; rintro e w' ⟨rfl, rfl⟩; rw [HCH.out]) | fail)
    clear hmk
    go_loopw [23] (fun i wr => ∃ j : Nat, j ≤ L.length ∧ i = .int .i64 j ∧ allTo j (oneK k L) = true ∧ wr.rowIs w.heap.size 4 L.length (fun r => .bool (metB (crk k L) j (r : Int))) ∧ Below w.heap.size w wr) (fun i _ => L.length - (intOf i).toNat)
    case atStart => exact ⟨0, Nat.zero_le _, rfl, rfl, HM.out.congr (fun i hi => by simp [metB, allTo_zero]), HB0.out⟩
    case round =>
      obtain ⟨j, hj, rfl, hall, hrow, hbel⟩ := hrel
      have HA := hid hall
      have HB := hid hbel
      have HROW := hid hrow
      clear hall
      by_cases hlt : j < L.length
      · obtain ⟨z, hz, hsit⟩ := HC.out j hlt
        obtain ⟨gb, go, gc, hze⟩ : ∃ gb go gc, z = .slice (some ⟨gb, go, none⟩) L[j].length gc := by obtain ⟨_, _, _, e, _⟩ := hsit; exact ⟨_, _, _, e⟩
        subst hze
        have hcx : wr.cell? ⟨b, off + j, none⟩ = some (.slice (some ⟨gb, go, none⟩) L[j].length gc) := (hbel.cell (by exact hb0)).trans hz
        have HZ := hid (hsit.below hbel)
        obtain ⟨l, hl2⟩ : ∃ l, l = L[j] := ⟨_, rfl⟩
        have hlc : combB n l = true := by rw [hl2]; exact HCB.out _ (List.getElem_mem hlt)
        have HLC := hid hlc
        have hg : L.getD j [] = l := by rw [hl2]; exact getDL2 hlt
        have HG := hid hg
        have h12 := (Rises_comb hlc).2.1
        have HWF := hid (show ∀ x ∈ l, (Lit.int .i64 x).wf = true from comb_wf hlc)
        rw [← hl2] at HZ hcx
        clear hz hsit hl2 hbel hrow hlc hg
        by_cases hk2 : l.length = k
        · have hbk : ((l.length : Int) != (k : Int)) = false := by rw [hk2]; simp
          have hr1 : L.getD j [] = l := HG.out
          have hr := crk_lt (n := n) (k := k) (L := L) (i := j) (by rw [hr1]; exact HLC.out) (by rw [hr1]; exact hk2)
          have HR := hid (colRes_crk hn hr1 HLC.out hk2)
          rw [← HBI.out] at hr
          obtain ⟨r, hrr⟩ : ∃ r : Nat, crk k L j = (r : Int) := ⟨(crk k L j).toNat, by omega⟩
          have HRR := hid hrr
          rw [hrr] at hr HR
          have hr3 : r < L.length := by omega
          have hr0 : (0 : Int) ≤ (r : Int) := by omega
          have hrl : (r : Int) < (L.length : Int) := by omega
          have HK2 := hid hk2
          clear hr1 hrr hk2
          cases hmet : metB (crk k L) j (r : Int) with
          | true =>
            have HK := hid (show oneK k L j = false by rw [oneK, HRR.out, hmet]; simp)
            have HMET := hid hmet
            clear hmet
            go_wp2_with (first | (go_at_call 117; refine (impl_ColexRank_any _ l _ HZ.out (by omega) HWF.out).mono ?_; rintro e w1 ⟨rfl, hb1⟩; rw [HR.out]; have HB1 := hid (Below_chain HB.out hb1); have hcc : w1.cell? ⟨w.heap.size, r, none⟩ = some (.bool true) := by { have := (HROW.out.of_block (hb1.block _ HROW.out.lt)).cell hr3; rw [HMET.out] at this; exact this }; clear hb1) | fail)
            go_ret
            exact ⟨ret_bool (HV.out.symm.trans (allTo_no hlt HK.out)).symm, HB1.out⟩
          | false =>
            have HK := hid (show oneK k L j = true by rw [oneK, HRR.out, hmet, HG.out, decide_eq_true HK2.out]; rfl)
            have HMET := hid hmet
            clear hmet
            go_wp2_with (first | (go_at_call 117; refine (impl_ColexRank_any _ l _ HZ.out (by omega) HWF.out).mono ?_; rintro e w1 ⟨rfl, hb1⟩; rw [HR.out]; have HB1 := hid (Below_chain HB.out hb1); have HROW1 := hid (HROW.out.of_block (hb1.block _ HROW.out.lt)); have hcc : w1.cell? ⟨w.heap.size, r, none⟩ = some (.bool false) := by { have := HROW1.out.cell hr3; rw [HMET.out] at this; exact this }; have hfz := HROW1.out.frozen r; have HS := hid (HROW1.out.set r (.bool true)); have HB2 := hid (HB1.out.setCell (p := ⟨w.heap.size, r, none⟩) (Nat.le_refl _) (.bool true)); clear hb1) | fail)
            go_roundw
            case rel => exact ⟨j + 1, by omega, by go_num, allTo_next HA.out HK.out, HS.out.congr (fun y hy => by
              rw [metB_succ, HRR.out]
              by_cases h : y = r
              · subst h; rw [if_pos rfl]; simp
              · rw [if_neg h]
                have : ((r : Int) == (y : Int)) = false := by simp; omega
                rw [this, Bool.or_false]), HB2.out⟩
            case measure => simp [intOf]; omega
        · have hbk : ((l.length : Int) != (k : Int)) = true := by simp; omega
          have HK := hid (show oneK k L j = false by rw [oneK, HG.out, decide_eq_false hk2]; rfl)
          go_wp2_with (first | (go_at_call 117; refine (impl_ColexRank_any _ l _ HZ.out (by omega) HWF.out).mono ?_; rintro e w1 ⟨rfl, hb1⟩; have HB1 := hid (Below_chain HB.out hb1); clear hb1) | fail)
          go_ret
          exact ⟨ret_bool (HV.out.symm.trans (allTo_no hlt HK.out)).symm, HB1.out⟩
      · obtain rfl : j = L.length := by omega
        clear hbel hrow
        go_wp2_with fail
        go_ret
        exact ⟨ret_bool (HV.out.symm.trans HA.out).symm, HB.out⟩
  · have hbb : ((L.length : Int) != (binom n k : Int)) = true := by simp; omega
    have HV := hid (show chaB n k L = false by rw [← HE.out, decide_eq_false hl, Bool.false_and])
    go_enter Try.func110, Try.ntmps110
    go_wp2_with (first | (go_at_call 66; refine (choose_any _ _ _ (by omega) (by omega)).mono ?_; rintro e w' ⟨rfl, rfl⟩; rw [HCH.out]) | fail)
    go_ret
    exact ⟨ret_bool HV.out.symm, Below.refl _ _⟩
end Go.Proofs.Ytijjdidljoicfaa
