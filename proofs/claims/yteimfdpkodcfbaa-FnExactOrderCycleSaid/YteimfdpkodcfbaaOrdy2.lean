/- Contracts: suOrders; both IsOrderCycle functions. Conditions: slices that are not nil and read as lists. -/
import Derived.Test.YteimfdpkodcfbaaOrdy1
import Derived.Test.YteimfdpkodcfbaaPair3
import Derived.Test.YteimfdpkodcfbaaPair4
import Derived.Test.YteimfdpkodcfbaaIndO
namespace Go.Proofs.Yteimfdpkodcfbaa
open Go.RowKit Go.Maps
set_option linter.unusedVariables false
set_option maxRecDepth 4000

def orB (n : Nat) (ws : List Int) : Bool := decide (ws.length = fact n) && wnB rkO okO n ws ws.length
def newO (n : Nat) (ws : List Int) (i : Nat) : Bool := !metW (fun j => rkO (arL ws j n)) i (rkO (arL ws i n)) && okO (arL ws i n)
theorem orB_new {n : Nat} {ws : List Int} : wnB rkO okO n ws ws.length = allTo ws.length (newO n ws) := rfl
theorem okO_dist {n : Nat} (hn : n ≤ 4) (ws : List Int) (i : Nat) : okO (arL ws i n) = distB (arL ws i n) := ordB_near (by rw [arL_len]; omega)
theorem sorO {n : Nat} (hn : n ≤ 4) {ws : List Int} {i : Nat} (h : distB (arL ws i n) = true) : (rankR (sorR (arL ws i n)) : Int) = rkO (arL ws i n) := by
  unfold rkO
  rw [sorR_yes h, ordR_yes (by rw [ordB_near (by rw [arL_len]; omega)]; exact h)]
def orOk (n : Int) (xs : List Int) : Bool := inB n 2 4 && suWB xs
def ioR (n : Int) (xs : List Int) : Bool := orOk n xs && orB n.toNat xs
theorem orOk_l {n : Int} {xs : List Int} (h : inB n 2 4 = false) : orOk n xs = false := by unfold orOk; rw [h]; rfl
theorem orOk_r {n : Int} {xs : List Int} (h : inB n 2 4 = true) : orOk n xs = suWB xs := by unfold orOk; rw [h]; rfl
theorem ioR_no {n : Int} {xs : List Int} (h : orOk n xs = false) : ioR n xs = false := by unfold ioR; rw [h]; rfl
theorem ioR_yes {m : Nat} {xs : List Int} (h : orOk (m : Int) xs = true) : ioR (m : Int) xs = orB m xs := by unfold ioR; rw [h]; rfl
theorem orB_ly {n N : Nat} (hN : N = fact n) (h1 : 1 ≤ N) (ws : List Int) : (decide (ws.length = N) && lyB rkO okO (winL (upTo N) n) ws) = orB n ws := by
  unfold orB
  by_cases h : ws.length = N
  · rw [decide_eq_true h, Bool.true_and, lyB_win h.symm h1, ← h, decide_eq_true (h.trans hN), Bool.true_and]
  · rw [decide_eq_false h, Bool.false_and, decide_eq_false (by rw [← hN]; exact h), Bool.false_and]
theorem isOrderSize_any (n : Int) (w : World) : Calls Try.prog 98 #[.int .i64 n] w fun e w' => e = .returned (.bool (inB n 2 4)) ∧ w = w' := by
  by_cases h2 : 2 ≤ n
  · by_cases h1 : n ≤ 4
    · have HB := hid (show inB n 2 4 = true from inB_iff.2 ⟨h2, h1⟩)
      go_enter Try.func98, Try.ntmps98
      go_wp2_with fail
      go_ret
      exact ⟨ret_bool HB.out.symm, rfl⟩
    · have HB := hid (show inB n 2 4 = false by cases h : inB n 2 4 with | false => rfl | true => exact absurd (inB_iff.1 h).2 h1)
      go_enter Try.func98, Try.ntmps98
      go_wp2_with fail
      go_ret
      exact ⟨ret_bool HB.out.symm, rfl⟩
  · have HB := hid (show inB n 2 4 = false by cases h : inB n 2 4 with | false => rfl | true => exact absurd (inB_iff.1 h).1 h2)
    go_enter Try.func98, Try.ntmps98
    go_wp2_with fail
    go_ret
    exact ⟨ret_bool HB.out.symm, rfl⟩
set_option maxHeartbeats 2000000 in
theorem suOrders_any (n : Nat) (v : Value) (xs : List Int) (w : World) (hn : inB (n : Int) 2 4 = true) (h : Sits w v xs) (hl : xs.length ≤ 200) :
    Calls Try.prog 97 #[.int .i64 (n : Int), v] w fun e w' => e = .returned (.bool (orB n xs)) ∧ Below w.heap.size w w' := by
  have HS := hid h
  obtain ⟨b, off, c, rfl, hc1, hm, hb, hc⟩ := h
  have hnn := inB_iff.1 hn
  have hn4 : n ≤ 4 := by omega
  have hn2 : 2 ≤ n := by omega
  have hn13 : n < 13 := by omega
  clear hc
  by_cases hlen : xs.length = fact n
  · have hne : ((xs.length : Int) != (fact n : Int)) = false := by simp; omega
    have hfn := fact_le4 n (by omega)
    have HPR := hid (show orB n xs = allTo xs.length (newO n xs) by unfold orB; rw [decide_eq_true hlen, Bool.true_and, orB_new])
    have HLEN := hid hlen
    have hx1 : 1 ≤ xs.length := by omega
    clear hlen hfn
    have hmk := run_make_boolsP xs.length (by omega) w
    have HM := hid (World.rowIs_made w (.bool false) xs.length 4)
    have HB0 := hid ((Below.refl w.heap.size w).alloc (Nat.le_refl _) (.cells (madeCells #[.bool false] xs.length) 4))
    go_enter Try.func97, Try.ntmps97
    go_wp2_with (first
      | (go_at_call 101; (refine (raFactorial_any n _ hn13).mono ?_); (rintro e w' ⟨rfl, rfl⟩))
      | fail)
    clear hmk
    go_loopw [6, 7, 8, 19] (fun _ _ _ i wr => ∃ k : Nat, k ≤ xs.length ∧ i = .int .i64 (k : Int) ∧ allTo k (newO n xs) = true ∧ wr.rowIs w.heap.size 4 xs.length (fun t => .bool (metW (fun j => rkO (arL xs j n)) k (t : Int))) ∧ Below w.heap.size w wr) (fun _ _ _ i _ => xs.length - (intOf i).toNat)
    case atStart => exact ⟨0, Nat.zero_le _, rfl, rfl, HM.out.congr (fun i hi => by simp [metW]), HB0.out⟩
    case round =>
      obtain ⟨k, hk, rfl, hall, hrow, hbel⟩ := hrel
      have HA := hid hall
      have HB := hid hbel
      have HROW := hid hrow
      have HSK := hid (HS.out.below hbel)
      have HWL := hid hrow.lt
      clear hall hrow hbel
      by_cases hlt : k < xs.length
      · have hl6 : xs.length ≤ 1048576 := by omega
        have hk6 : k ≤ 1048576 := by omega
        have hn6 : n ≤ 1048576 := by omega
        have HLN := hid (arL_len xs k n)
        obtain ⟨L, hL⟩ : ∃ L, L = arL xs k n := ⟨_, rfl⟩
        have HL := hid hL
        have HL6 := hid (show L.length ≤ 1048576 by rw [hL, arL_len]; omega)
        have HL1 := hid (show 0 < L.length by rw [hL, arL_len]; omega)
        have HOKD := hid (show okO L = distB L by rw [hL]; exact okO_dist hn4 xs k)
        clear hL
        cases hd : distB L with
        | false =>
          have HF := hid (show orB n xs = false by
            rw [HPR.out]
            refine allTo_no hlt ?_
            unfold newO
            rw [← HL.out, HOKD.out, hd, Bool.and_false])
          go_wp2_with (first
            | (go_at_call 141; (refine (suOrder_any _ L _ HSL.out HL6.out).mono ?_); (rintro e w2 ⟨u2, rfl, ho2, hb2⟩); (rw [hd]); (have HB2 := hid (Below_chain HB1.out hb2)); (clear ho2 hb2))
            | (go_at_call 94; (refine (suRound_any _ xs k n _ HSK.out hx1 hl6 hk6 hn6).mono ?_); (rintro e w1 ⟨u1, rfl, ho1, hb1⟩); (rw [← HL.out] at ho1); (have HSL := hid (sits9 ho1 HL1.out)); (have HB1 := hid (Below_chain HB.out hb1)); (clear ho1 hb1))
            | fail)
          go_ret
          exact ⟨ret_bool HF.out.symm, HB2.out⟩
        | true =>
          have HRL := hid (show (rankR (sorR L) : Int) = rkO L by rw [HL.out]; exact sorO hn4 (by rw [← HL.out]; exact hd))
          have hsl : (sorR L).length = n := by rw [sorR_yes hd, lesL_length, HL.out, arL_len]
          have HS12 := hid (show (sorR L).length ≤ 12 by omega)
          have HS1 := hid (show 0 < (sorR L).length by omega)
          have hrl := rkO_lt (show okO L = true by rw [HOKD.out, hd])
          rw [show L.length = n by rw [HL.out, arL_len], ← HLEN.out] at hrl
          obtain ⟨r, hr⟩ : ∃ r : Nat, rankR (sorR L) = r := ⟨_, rfl⟩
          have HRR := hid hr
          have hre : rkO L = (r : Int) := by rw [← HRL.out, hr]
          have HRE := hid hre
          rw [hre] at hrl
          have hr3 : r < xs.length := by omega
          have hr0 : (0 : Int) ≤ (r : Int) := by omega
          have hr4 : (r : Int) < (xs.length : Int) := by omega
          have hcr := HROW.out.cell hr3
          have HCR := hid hcr
          clear hsl hr hre hrl hcr
          cases hmet : metW (fun j => rkO (arL xs j n)) k (r : Int) with
          | true =>
            have HF := hid (show orB n xs = false by
              rw [HPR.out]
              refine allTo_no hlt ?_
              unfold newO
              rw [← HL.out, HRE.out, hmet]; rfl)
            go_wp2_with (first
              | (go_at_call 142; (refine (raRank_any (sorR L) _ _ HS12.out HO2.out).mono ?_); (rintro e w3 ⟨rfl, q3, rfl⟩); (rw [HRR.out]); (have hcs : (w2.drewN q3).cell? ⟨w.heap.size, r, none⟩ = some (.bool true) := by rw [← hmet]; exact (HB2r.out.cell (by exact HWL.out)).trans HCR.out))
              | (go_at_call 141; (refine (suOrder_any _ L _ HSL.out HL6.out).mono ?_); (rintro e w2 ⟨u2, rfl, ho2, hb2⟩); (rw [hd]); (have HO2 := hid (sits9 ho2 HS1.out)); (have HB2r := hid (Below_chain HB1r.out hb2)); (have HB2 := hid (Below_chain HB1.out hb2)); (clear ho2 hb2))
              | (go_at_call 94; (refine (suRound_any _ xs k n _ HSK.out hx1 hl6 hk6 hn6).mono ?_); (rintro e w1 ⟨u1, rfl, ho1, hb1⟩); (rw [← HL.out] at ho1); (have HSL := hid (sits9 ho1 HL1.out)); (have HB1r := hid hb1); (have HB1 := hid (Below_chain HB.out hb1)); (clear ho1 hb1))
              | fail)
            go_ret
            exact ⟨ret_bool HF.out.symm, below_drewN HB2.out _⟩
          | false =>
            have HNW := hid (show newO n xs k = true by
              unfold newO
              rw [← HL.out, HRE.out, hmet, HOKD.out, hd]; rfl)
            go_wp2_with (first
              | (go_at_call 142; (refine (raRank_any (sorR L) _ _ HS12.out HO4.out).mono ?_); (rintro e w5 ⟨rfl, q5, rfl⟩); (rw [HRR.out]); (have hcs2 : (w2.drewN (q3 + q5)).cell? ⟨w.heap.size, r, none⟩ = some (.bool false) := by rw [← HMET.out]; exact (HB2r.out.cell (by exact HWL.out)).trans HCR.out); (have hfs2 : (w2.drewN (q3 + q5)).frozen? ⟨w.heap.size, r, none⟩ = false := HF2.out))
              | (go_at_call 142; (refine (raRank_any (sorR L) _ _ HS12.out HO2.out).mono ?_); (rintro e w3 ⟨rfl, q3, rfl⟩); (rw [HRR.out]); (have hcs : (w2.drewN q3).cell? ⟨w.heap.size, r, none⟩ = some (.bool false) := by rw [← hmet]; exact (HB2r.out.cell (by exact HWL.out)).trans HCR.out); (have HMET := hid hmet); (have HO4 := hid (HO2.out.below (below_drewN (Below.refl _ _) q3))))
              | (go_at_call 141; (refine (suOrder_any _ L _ HSL.out HL6.out).mono ?_); (rintro e w2 ⟨u2, rfl, ho2, hb2⟩); (rw [hd]); (have HO2 := hid (sits9 ho2 HS1.out)); (have HB2r := hid (Below_chain HB1r.out hb2)); (have HB2 := hid (Below_chain HB1.out hb2)); (have hrr := HROW.out.of_block (HB2r.out.block w.heap.size HWL.out)); (have HR2 := hid hrr); (have HF2 := hid (hrr.frozen r)); (clear ho2 hb2 hrr))
              | (go_at_call 94; (refine (suRound_any _ xs k n _ HSK.out hx1 hl6 hk6 hn6).mono ?_); (rintro e w1 ⟨u1, rfl, ho1, hb1⟩); (rw [← HL.out] at ho1); (have HSL := hid (sits9 ho1 HL1.out)); (have HB1r := hid hb1); (have HB1 := hid (Below_chain HB.out hb1)); (clear ho1 hb1))
              | fail)
            have HR5 := hid ((HR2.out.of_block (w' := w2.drewN (q3 + q5)) rfl).set r (.bool true))
            have HB5 := hid ((below_drewN HB2.out (q3 + q5)).setCell (p := ⟨w.heap.size, r, none⟩) (Nat.le_refl _) (.bool true))
            go_roundw
            case rel => exact ⟨k + 1, by omega, by go_num, allTo_next HA.out HNW.out, HR5.out.congr (fun t ht => by
              rw [metW_succ]
              show _ = Value.bool (metW (fun j => rkO (arL xs j n)) k (t : Int) || (rkO (arL xs k n) == (t : Int)))
              rw [← HL.out, HRE.out]
              by_cases c1 : t = r
              · subst c1; simp
              · have : ((r : Int) == (t : Int)) = false := by simp; omega
                rw [if_neg c1, this, Bool.or_false]), HB5.out⟩
            case measure => simp [intOf]; omega
      · obtain rfl : k = xs.length := by omega
        have HF := hid (show orB n xs = true by rw [HPR.out]; exact HA.out)
        go_wp2_with fail
        go_ret
        exact ⟨ret_bool HF.out.symm, HB.out⟩
  · have hne : ((xs.length : Int) != (fact n : Int)) = true := by simp; omega
    have HF := hid (show orB n xs = false by unfold orB; rw [decide_eq_false hlen, Bool.false_and])
    clear hlen
    go_enter Try.func97, Try.ntmps97
    go_wp2_with (first
      | (go_at_call 101; (refine (raFactorial_any n _ hn13).mono ?_); (rintro e w' ⟨rfl, rfl⟩))
      | fail)
    go_ret
    exact ⟨ret_bool HF.out.symm, Below.refl _ _⟩
theorem spec_IsOrderCycle_any (n : Int) (v : Value) (xs : List Int) (w : World) (_hn : (Lit.int .i64 n).wf = true) (h : Sits w v xs) (_hl : xs.length ≤ 1048576) (_hwf : ∀ n ∈ xs, (Lit.int .i64 n).wf = true) :
    Calls Try.prog 40 #[.int .i64 n, v] w fun e w' => e = .returned (.tuple #[.bool (ioR n xs), .bool (orOk n xs)]) ∧ Below w.heap.size w w' := by
  have HS := hid h
  clear h
  cases hn : inB n 2 4 with
  | false =>
    have HK := hid (orOk_l (xs := xs) hn)
    have HR := hid (ioR_no HK.out)
    go_enter Try.func40, Try.ntmps40
    go_wp2_with (first
      | (go_at_call 96; (refine (l1In_any _ _ _ _).mono ?_); (rintro e w' ⟨rfl, rfl⟩); (rw [hn]))
      | fail)
    go_ret2
    exact ⟨ret_bb9 HR.out.symm HK.out.symm, Below.refl _ _⟩
  | true =>
    have h0 := inB_iff.1 hn
    obtain ⟨m, rfl⟩ : ∃ m : Nat, n = (m : Int) := ⟨n.toNat, by omega⟩
    have HN := hid hn
    cases hw : suWB xs with
    | false =>
      have HK := hid ((orOk_r (xs := xs) hn).trans hw)
      have HR := hid (ioR_no HK.out)
      go_enter Try.func40, Try.ntmps40
      go_wp2_with (first
        | (go_at_call 96; (refine (l1In_any _ _ _ _).mono ?_); (rintro e w' ⟨rfl, rfl⟩); (rw [HN.out]))
        | (go_at_call 86; (refine (suWord_any _ xs _ HS.out).mono ?_); (rintro e w' ⟨rfl, rfl⟩); (rw [hw]))
        | fail)
      go_ret2
      exact ⟨ret_bb9 HR.out.symm HK.out.symm, Below.refl _ _⟩
    | true =>
      have HK := hid ((orOk_r (xs := xs) hn).trans hw)
      have HR := hid (ioR_yes HK.out)
      have hl2 := suWB_len hw
      go_enter Try.func40, Try.ntmps40
      go_wp2_with (first
        | (go_at_call 96; (refine (l1In_any _ _ _ _).mono ?_); (rintro e w' ⟨rfl, rfl⟩); (rw [HN.out]))
        | (go_at_call 86; (refine (suWord_any _ xs _ HS.out).mono ?_); (rintro e w' ⟨rfl, rfl⟩); (rw [hw]))
        | (go_at_call 97; (refine (suOrders_any m _ xs _ HN.out HS.out hl2).mono ?_); (rintro e w1 ⟨rfl, hb1⟩); (have HB1 := hid hb1); (clear hb1))
        | fail)
      go_ret2
      exact ⟨ret_bb9 HR.out.symm HK.out.symm, HB1.out⟩
theorem impl_IsOrderCycle_any (n : Int) (v : Value) (xs : List Int) (w : World) (_hn : (Lit.int .i64 n).wf = true) (h : Sits w v xs) (_hl : xs.length ≤ 1048576) (_hwf : ∀ n ∈ xs, (Lit.int .i64 n).wf = true) :
    Calls Try.prog 41 #[.int .i64 n, v] w fun e w' => e = .returned (.tuple #[.bool (ioR n xs), .bool (orOk n xs)]) ∧ Below w.heap.size w w' := by
  have HS := hid h
  have HWF := hid _hwf
  clear h _hwf
  cases hn : inB n 2 4 with
  | false =>
    have HK := hid (orOk_l (xs := xs) hn)
    have HR := hid (ioR_no HK.out)
    go_enter Try.func41, Try.ntmps41
    go_wp2_with (first
      | (go_at_call 98; (refine (isOrderSize_any _ _).mono ?_); (rintro e w' ⟨rfl, rfl⟩); (rw [hn]))
      | fail)
    go_ret2
    exact ⟨ret_bb9 HR.out.symm HK.out.symm, Below.refl _ _⟩
  | true =>
    have h0 := inB_iff.1 hn
    obtain ⟨m, rfl⟩ : ∃ m : Nat, n = (m : Int) := ⟨n.toNat, by omega⟩
    have HN := hid hn
    cases hw : suWB xs with
    | false =>
      have HK := hid ((orOk_r (xs := xs) hn).trans hw)
      have HR := hid (ioR_no HK.out)
      go_enter Try.func41, Try.ntmps41
      go_wp2_with (first
        | (go_at_call 98; (refine (isOrderSize_any _ _).mono ?_); (rintro e w' ⟨rfl, rfl⟩); (rw [HN.out]))
        | (go_at_call 89; (refine (isSuperWord_any _ xs _ HS.out).mono ?_); (rintro e w' ⟨rfl, rfl⟩); (rw [hw]))
        | fail)
      go_ret2
      exact ⟨ret_bb9 HR.out.symm HK.out.symm, Below.refl _ _⟩
    | true =>
      have HK := hid ((orOk_r (xs := xs) hn).trans hw)
      have HR := hid (ioR_yes HK.out)
      have hl2 := suWB_len hw
      obtain ⟨N, hN⟩ : ∃ N, N = fact m := ⟨_, rfl⟩
      have HNN := hid hN
      have hf4 := fact_le4 m (by omega)
      rw [← hN] at hf4
      have HN1 := hid hf4.1
      have HN2 := hid (show N ≤ 200 by omega)
      have HM4 := hid (show m ≤ 4 by omega)
      have HM1 := hid (show 1 ≤ m by omega)
      clear hf4 hN
      go_enter Try.func41, Try.ntmps41
      go_wp2_with (first
        | (go_at_call 98; (refine (isOrderSize_any _ _).mono ?_); (rintro e w' ⟨rfl, rfl⟩); (rw [HN.out]))
        | (go_at_call 89; (refine (isSuperWord_any _ xs _ HS.out).mono ?_); (rintro e w' ⟨rfl, rfl⟩); (rw [hw]))
        | (go_at_call 91; (refine (ind_O rkO okO g N _ (winL (upTo N) m) xs _ (by rw [winL_len, upTo_length]) HL1.out (HS.out.below HB1.out) HN2.out HN1.out (win_placed HM1.out (by omega) HN1.out) (fun l hl => rkO_wf _) hl2 (ord_clo HM4.out HM1.out HWF.out)).mono ?_); (rintro e w2 ⟨rfl, _, hb2⟩); (rw [orB_ly HNN.out HN1.out]); (have HB2 := hid (Below_chain HB1.out hb2)); (clear hb2))
        | (go_at_call 99; (refine (ordersOf_any m N _ HN.out HNN.out).mono ?_); (rintro e w1 ⟨g, rfl, hl1, hb1⟩); (have HL1 := hid hl1); (have HB1 := hid hb1); (clear hl1 hb1))
        | fail)
      go_ret2
      exact ⟨ret_bb9 HR.out.symm HK.out.symm, HB2.out⟩
end Go.Proofs.Yteimfdpkodcfbaa
