/- Contract: areAllOnce with the closure of leadThroughAll. Conditions: the slice is not nil, nor are its rows, and it reads as a list of at most 1100 lists; the ranks are less than count. -/
import Derived.Test.YtkphbelgamfmnaaOnG
import Derived.Test.YtkphbelgamfmnaaSSL
import Derived.Test.YtkphbelgamfmnaaCol2
namespace Go.Proofs.Ytkphbelgamfmnaa
open Go.RowKit
set_option linter.unusedVariables false
set_option maxRecDepth 4000

theorem Try.infoBE : (Try.prog.info? 4).map (fun i => (i.zero, i.size, i.bytes)) = some (some (.bool false), 1, 1) := by kernel_rfl
theorem run_make_boolsE (n : Nat) (hn : n ≤ 1048576) (w : World) : Sem.run Try.prog (Instr.makeSlice 39 (.int .i64 n) (.int .i64 n)) w = .ok (.slice (some ⟨w.heap.size, 0, none⟩) n n) (w.alloc (.cells (madeCells #[.bool false] n) 4)) :=
  run_make_row' 39 4 (.bool false) 1 Try.underlying39 Try.infoBE rfl .i64 .i64 n (by omega) (by omega) w
def ceB (k : Nat) (l : List Int) : Bool := combB 12 l && decide (l.length = k)
theorem chClo_any (u : Value) (a : Addr) (k : Nat) (ys : List Int) (w : World) (ha : w.cell? a = some (.int .i64 (k : Int))) (h' : Sits w u ys) (hl : ys.length ≤ 1048576) (hwf : ∀ x ∈ ys, (Lit.int .i64 x).wf = true) :
    Calls Try.prog 66 #[u, .pointer (some a)] w fun e w' => e = .returned (.tuple #[.int .i64 (colRes ys), .bool (ceB k ys)]) ∧ Below w.heap.size w w' := by
  have HS' := hid h'
  have HWF := hid hwf
  have HCA := hid ha
  obtain ⟨b', off', c', rfl, _⟩ := h'
  clear hwf ha
  cases hc : combB 12 ys with
  | false =>
    have HC := hid hc
    have HR := hid (show false = ceB k ys by rw [ceB, hc]; rfl)
    clear hc
    go_enter Try.func66, Try.ntmps66
    go_wp2_with (first | (go_at_call 67; refine (impl_ColexRank_any _ ys _ HS'.out hl HWF.out).mono ?_; rintro e w1 ⟨rfl, hb1⟩; rw [HC.out]; have HB1 := hid hb1; have hca := cell_keptG HCA.out hb1; clear hb1) | fail)
    go_region
    all_goals
      go_wp2_with fail
      go_ret2
      exact ⟨by rw [← HR.out]; rfl, by first | exact HB1.out | exact Below_chain HB1.out (Below.refl _ _).drew⟩
  | true =>
    have HC := hid hc
    by_cases hk : ys.length = k
    · have HR := hid (show true = ceB k ys by rw [ceB, hc, decide_eq_true hk]; rfl)
      have hbb : ((ys.length : Int) == (k : Int)) = true := by rw [hk]; simp
      clear hc hk
      go_enter Try.func66, Try.ntmps66
      go_wp2_with (first | (go_at_call 67; refine (impl_ColexRank_any _ ys _ HS'.out hl HWF.out).mono ?_; rintro e w1 ⟨rfl, hb1⟩; rw [HC.out]; have HB1 := hid hb1; have hca := cell_keptG HCA.out hb1; clear hb1) | fail)
      go_region_held3 (fun w' => w'.cell? a = some (.int .i64 (k : Int))) (first | exact hca | go_keep | fail) (fail)
      all_goals
        go_wp2_with fail
        go_ret2
        exact ⟨by rw [← HR.out]; rfl, by first | exact HB1.out | exact Below_chain HB1.out (Below.refl _ _).drew⟩
    · have HR := hid (show false = ceB k ys by rw [ceB, hc, decide_eq_false hk]; rfl)
      have hbb : ((ys.length : Int) == (k : Int)) = false := by simp; omega
      clear hc hk
      go_enter Try.func66, Try.ntmps66
      go_wp2_with (first | (go_at_call 67; refine (impl_ColexRank_any _ ys _ HS'.out hl HWF.out).mono ?_; rintro e w1 ⟨rfl, hb1⟩; rw [HC.out]; have HB1 := hid hb1; have hca := cell_keptG HCA.out hb1; clear hb1) | fail)
      go_region_held3 (fun w' => w'.cell? a = some (.int .i64 (k : Int))) (first | exact hca | go_keep | fail) (fail)
      all_goals
        go_wp2_with fail
        go_ret2
        exact ⟨by rw [← HR.out]; rfl, by first | exact HB1.out | exact Below_chain HB1.out (Below.refl _ _).drew⟩
set_option maxHeartbeats 1000000 in
theorem areAllOnce_E (k : Nat) (a : Addr) (count : Nat) (hcount : count ≤ 1048576) (v : Value) (L : List (List Int)) (w : World) (ha : w.cell? a = some (.int .i64 (k : Int))) (h : SitsL w v L) (hrow : ∀ l ∈ L, l.length ≤ 1048576 ∧ ∀ x ∈ l, (Lit.int .i64 x).wf = true) (hlt : ∀ l ∈ L, ceB k l = true → 0 ≤ colRes l ∧ colRes l < (count : Int)) :
    Calls Try.prog 36 #[.int .i64 count, v, .func (.func 66) #[] #[.pointer (some a)]] w fun e w' => e = .returned (.bool (onA (colRes) (ceB k) count L)) ∧ Below w.heap.size w w' := by
  obtain ⟨b, off, c, rfl, hc1, hm, hb0, hc⟩ := h
  have HC := hid hc
  have HW := hid hrow
  have HLT := hid hlt
  have HCA := hid ha
  clear ha
  clear hc hrow hlt
  by_cases hl : L.length = count
  · have HV := hid (show allTo L.length (onG (colRes) (ceB k) L) = onA (colRes) (ceB k) count L by rw [onA, decide_eq_true hl, Bool.true_and])
    have hbb : ((L.length : Int) != (count : Int)) = false := by rw [hl]; simp
    have HBI := hid hl
    have hmk := run_make_boolsE count (by omega) w
    have HM := hid (World.rowIs_made w (.bool false) count 4)
    have HB0 := hid ((Below.refl w.heap.size w).alloc (Nat.le_refl _) (.cells (madeCells #[.bool false] count) 4))
    clear hl
    go_enter Try.func36, Try.ntmps36
    go_wp2_with fail
    clear hmk
    go_loopw [20] (fun i wr => ∃ j : Nat, j ≤ L.length ∧ i = .int .i64 j ∧ allTo j (onG (colRes) (ceB k) L) = true ∧ wr.rowIs w.heap.size 4 count (fun r => .bool (metG (fun i => (colRes) (L.getD i [])) j (r : Int))) ∧ Below w.heap.size w wr) (fun i _ => L.length - (intOf i).toNat)
    case atStart => exact ⟨0, Nat.zero_le _, rfl, rfl, HM.out.congr (fun i hi => by rw [metG_zero]), HB0.out⟩
    case round =>
      obtain ⟨j, hj, rfl, hall, hrow, hbel⟩ := hrel
      have HA := hid hall
      have HB := hid hbel
      have HROW := hid hrow
      clear hall
      by_cases hlt : j < L.length
      · obtain ⟨z, hz, hsit⟩ := HC.out j hlt
        obtain ⟨gb, go, gc, hze⟩ : ∃ gb go gc, z = .slice (some ⟨gb, go, none⟩) L[j].length gc := by obtain ⟨_, _, _, e, _⟩ := hsit; exact ⟨_, _, _, e⟩
        subst hze
        have hcx : wr.cell? ⟨b, off + j, none⟩ = some (.slice (some ⟨gb, go, none⟩) L[j].length gc) := (hbel.cell (by exact hb0)).trans hz
        have HZ := hid (hsit.below hbel)
        have HCA1 := hid (cell_keptG HCA.out hbel)
        obtain ⟨l, hl2⟩ : ∃ l, l = L[j] := ⟨_, rfl⟩
        have HMEM := hid (show l ∈ L by rw [hl2]; exact List.getElem_mem hlt)
        have HG := hid (show L.getD j [] = l by rw [hl2]; simp [List.getD_eq_getElem?_getD, hlt])
        have HWL := hid (HW.out l HMEM.out)
        rw [← hl2] at HZ hcx
        clear hz hsit hl2 hbel hrow
        cases hok : (ceB k) l with
        | true =>
          have HOK := hid hok
          have hr := HLT.out l HMEM.out hok
          obtain ⟨r, hrr⟩ : ∃ r : Nat, (colRes) l = (r : Int) := ⟨((colRes) l).toNat, by omega⟩
          have HRR := hid hrr
          rw [hrr] at hr
          have hr3 : r < count := by omega
          have hr0 : (0 : Int) ≤ (r : Int) := by omega
          have hrl : (r : Int) < (count : Int) := by omega
          clear hrr hok
          cases hmet : metG (fun i => (colRes) (L.getD i [])) j (r : Int) with
          | true =>
            have HK := hid (onG_met (rk := colRes) (ok := ceB k) HG.out HRR.out hmet)
            have HMET := hid hmet
            clear hmet
            go_wp2_with (first | (go_at_call 66; refine (chClo_any _ a k l _ HCA1.out HZ.out HWL.out.1 HWL.out.2).mono ?_; rintro e w1 ⟨rfl, hb1⟩; rw [HOK.out, HRR.out]; have HB1 := hid (Below_chain HB.out hb1); have hcc : w1.cell? ⟨w.heap.size, r, none⟩ = some (.bool true) := by { have := (HROW.out.of_block (hb1.block _ HROW.out.lt)).cell hr3; rw [HMET.out] at this; exact this }; clear hb1) | fail)
            go_ret
            exact ⟨ret_bool (HV.out.symm.trans (allTo_no hlt HK.out)).symm, HB1.out⟩
          | false =>
            have HK := hid (onG_new (rk := colRes) (ok := ceB k) HG.out HOK.out HRR.out hmet)
            have HMET := hid hmet
            clear hmet
            go_wp2_with (first | (go_at_call 66; refine (chClo_any _ a k l _ HCA1.out HZ.out HWL.out.1 HWL.out.2).mono ?_; rintro e w1 ⟨rfl, hb1⟩; rw [HOK.out, HRR.out]; have HB1 := hid (Below_chain HB.out hb1); have HROW1 := hid (HROW.out.of_block (hb1.block _ HROW.out.lt)); have hcc : w1.cell? ⟨w.heap.size, r, none⟩ = some (.bool false) := by { have := HROW1.out.cell hr3; rw [HMET.out] at this; exact this }; have hfz := HROW1.out.frozen r; have HS := hid (HROW1.out.set r (.bool true)); have HB2 := hid (HB1.out.setCell (p := ⟨w.heap.size, r, none⟩) (Nat.le_refl _) (.bool true)); clear hb1) | fail)
            go_roundw
            case rel => exact ⟨j + 1, by omega, by go_num, allTo_next HA.out HK.out, HS.out.congr (fun y hy => by
              rw [metG_succ HG.out HRR.out]
              by_cases h : y = r
              · rw [if_pos h, if_pos h]
              · rw [if_neg h, if_neg h]), HB2.out⟩
            case measure => simp [intOf]; omega
        | false =>
          have HOK := hid hok
          have HK := hid (onG_bad (rk := colRes) (ok := ceB k) HG.out hok)
          obtain ⟨r, hrr⟩ : ∃ r : Int, r = (colRes) l := ⟨_, rfl⟩
          have HRR := hid hrr.symm
          clear hok hrr
          go_wp2_with (first | (go_at_call 66; refine (chClo_any _ a k l _ HCA1.out HZ.out HWL.out.1 HWL.out.2).mono ?_; rintro e w1 ⟨rfl, hb1⟩; rw [HOK.out, HRR.out]; have HB1 := hid (Below_chain HB.out hb1); clear hb1) | fail)
          go_ret
          exact ⟨ret_bool (HV.out.symm.trans (allTo_no hlt HK.out)).symm, HB1.out⟩
      · obtain rfl : j = L.length := by omega
        clear hbel hrow
        go_wp2_with fail
        go_ret
        exact ⟨ret_bool (HV.out.symm.trans HA.out).symm, HB.out⟩
  · have hbb : ((L.length : Int) != (count : Int)) = true := by simp; omega
    have HV := hid (show onA (colRes) (ceB k) count L = false by rw [onA, decide_eq_false hl, Bool.false_and])
    go_enter Try.func36, Try.ntmps36
    go_wp2_with fail
    go_ret
    exact ⟨ret_bool HV.out.symm, Below.refl _ _⟩
end Go.Proofs.Ytkphbelgamfmnaa
