/- Contract: areAllOnce with the closure of IsBruijn. Conditions: the slice is not nil, nor are its rows, and it reads as a list of at most 1100 lists; the ranks are less than count. -/
import Derived.Test.YtaajfpjekfmddabOnG
import Derived.Test.YtaajfpjekfmddabSSL
import Derived.Test.YtaajfpjekfmddabDig4
namespace Go.Proofs.Ytaajfpjekfmddab
open Go.RowKit
set_option linter.unusedVariables false
set_option maxRecDepth 4000

theorem Try.infoBB : (Try.prog.info? 4).map (fun i => (i.zero, i.size, i.bytes)) = some (some (.bool false), 1, 1) := by kernel_rfl
theorem run_make_boolsB (n : Nat) (hn : n ≤ 1048576) (w : World) : Sem.run Try.prog (Instr.makeSlice 52 (.int .i64 n) (.int .i64 n)) w = .ok (.slice (some ⟨w.heap.size, 0, none⟩) n n) (w.alloc (.cells (madeCells #[.bool false] n) 4)) :=
  run_make_row' 52 4 (.bool false) 1 Try.underlying52 Try.infoBB rfl .i64 .i64 n (by omega) (by omega) w
theorem bruClo_any (u v0 : Value) (a : Addr) (xs ys : List Int) (w : World) (ha : w.cell? a = some v0) (h : Sits w v0 xs) (h' : Sits w u ys) :
    Calls Try.prog 86 #[u, .pointer (some a)] w fun e w' => e = .returned (.tuple #[.int .i64 (rankRes xs ys), .bool (rankB xs ys)]) ∧ Below w.heap.size w w' := by
  have HS := hid h
  have HS' := hid h'
  obtain ⟨b, off, c, rfl, _⟩ := h
  obtain ⟨b', off', c', rfl, _⟩ := h'
  go_enter Try.func86, Try.ntmps86
  go_wp2_with (first | (go_at_call 87; refine (impl_RankOfDigits_any _ _ xs ys _ HS.out HS'.out).mono ?_; rintro e w1 ⟨rfl, hb1⟩; have HB1 := hid hb1; clear hb1) | fail)
  go_ret2
  exact ⟨rfl, HB1.out⟩
set_option maxHeartbeats 1000000 in
theorem areAllOnce_B (xs : List Int) (v0 : Value) (a : Addr) (count : Nat) (hcount : count ≤ 1048576) (v : Value) (L : List (List Int)) (w : World) (ha : w.cell? a = some v0) (hs0 : Sits w v0 xs) (h : SitsL w v L) (hrow : ∀ l ∈ L, True) (hlt : ∀ l ∈ L, rankB xs l = true → 0 ≤ rankRes xs l ∧ rankRes xs l < (count : Int)) :
    Calls Try.prog 88 #[.int .i64 count, v, .func (.func 86) #[] #[.pointer (some a)]] w fun e w' => e = .returned (.bool (onA (rankRes xs) (rankB xs) count L)) ∧ Below w.heap.size w w' := by
  obtain ⟨b, off, c, rfl, hc1, hm, hb0, hc⟩ := h
  have HC := hid hc
  have HW := hid hrow
  have HLT := hid hlt
  have HCA := hid ha
  have HS0 := hid hs0
  clear ha hs0
  clear hc hrow hlt
  by_cases hl : L.length = count
  · have HV := hid (show allTo L.length (onG (rankRes xs) (rankB xs) L) = onA (rankRes xs) (rankB xs) count L by rw [onA, decide_eq_true hl, Bool.true_and])
    have hbb : ((L.length : Int) != (count : Int)) = false := by rw [hl]; simp
    have HBI := hid hl
    have hmk := run_make_boolsB count (by omega) w
    have HM := hid (World.rowIs_made w (.bool false) count 4)
    have HB0 := hid ((Below.refl w.heap.size w).alloc (Nat.le_refl _) (.cells (madeCells #[.bool false] count) 4))
    clear hl
    go_enter Try.func88, Try.ntmps88
    go_wp2_with fail
    clear hmk
    go_loopw [20] (fun i wr => ∃ j : Nat, j ≤ L.length ∧ i = .int .i64 j ∧ allTo j (onG (rankRes xs) (rankB xs) L) = true ∧ wr.rowIs w.heap.size 4 count (fun r => .bool (metG (fun i => (rankRes xs) (L.getD i [])) j (r : Int))) ∧ Below w.heap.size w wr) (fun i _ => L.length - (intOf i).toNat)
    case atStart => exact ⟨0, Nat.zero_le _, rfl, rfl, HM.out.congr (fun i hi => by rw [metG_zero]), HB0.out⟩
    case round =>
      obtain ⟨j, hj, rfl, hall, hrow, hbel⟩ := hrel
      have HA := hid hall
      have HB := hid hbel
      have HROW := hid hrow
      clear hall
      by_cases hlt : j < L.length
      · obtain ⟨z, hz, hsit⟩ := HC.out j hlt
        obtain ⟨gb, go, gc, hze⟩ : ∃ gb go gc, z = .slice (some ⟨gb, go, none⟩) L[j].length gc := by obtain ⟨_, _, _, e, _⟩ := hsit; exact ⟨_, _, _, e⟩
        subst hze
        have hcx : wr.cell? ⟨b, off + j, none⟩ = some (.slice (some ⟨gb, go, none⟩) L[j].length gc) := (hbel.cell (by exact hb0)).trans hz
        have HZ := hid (hsit.below hbel)
        have HCA1 := hid (cell_keptG HCA.out hbel)
        have HS01 := hid (HS0.out.below hbel)
        obtain ⟨l, hl2⟩ : ∃ l, l = L[j] := ⟨_, rfl⟩
        have HMEM := hid (show l ∈ L by rw [hl2]; exact List.getElem_mem hlt)
        have HG := hid (show L.getD j [] = l by rw [hl2]; simp [List.getD_eq_getElem?_getD, hlt])
        have HWL := hid (HW.out l HMEM.out)
        rw [← hl2] at HZ hcx
        clear hz hsit hl2 hbel hrow
        cases hok : (rankB xs) l with
        | true =>
          have HOK := hid hok
          have hr := HLT.out l HMEM.out hok
          obtain ⟨r, hrr⟩ : ∃ r : Nat, (rankRes xs) l = (r : Int) := ⟨((rankRes xs) l).toNat, by omega⟩
          have HRR := hid hrr
          rw [hrr] at hr
          have hr3 : r < count := by omega
          have hr0 : (0 : Int) ≤ (r : Int) := by omega
          have hrl : (r : Int) < (count : Int) := by omega
          clear hrr hok
          cases hmet : metG (fun i => (rankRes xs) (L.getD i [])) j (r : Int) with
          | true =>
            have HK := hid (onG_met (rk := rankRes xs) (ok := rankB xs) HG.out HRR.out hmet)
            have HMET := hid hmet
            clear hmet
            go_wp2_with (first | (go_at_call 86; refine (bruClo_any _ _ a xs l _ HCA1.out HS01.out HZ.out).mono ?_; rintro e w1 ⟨rfl, hb1⟩; rw [HOK.out, HRR.out]; have HB1 := hid (Below_chain HB.out hb1); have hcc : w1.cell? ⟨w.heap.size, r, none⟩ = some (.bool true) := by { have := (HROW.out.of_block (hb1.block _ HROW.out.lt)).cell hr3; rw [HMET.out] at this; exact this }; clear hb1) | fail)
            go_ret
            exact ⟨ret_bool (HV.out.symm.trans (allTo_no hlt HK.out)).symm, HB1.out⟩
          | false =>
            have HK := hid (onG_new (rk := rankRes xs) (ok := rankB xs) HG.out HOK.out HRR.out hmet)
            have HMET := hid hmet
            clear hmet
            go_wp2_with (first | (go_at_call 86; refine (bruClo_any _ _ a xs l _ HCA1.out HS01.out HZ.out).mono ?_; rintro e w1 ⟨rfl, hb1⟩; rw [HOK.out, HRR.out]; have HB1 := hid (Below_chain HB.out hb1); have HROW1 := hid (HROW.out.of_block (hb1.block _ HROW.out.lt)); have hcc : w1.cell? ⟨w.heap.size, r, none⟩ = some (.bool false) := by { have := HROW1.out.cell hr3; rw [HMET.out] at this; exact this }; have hfz := HROW1.out.frozen r; have HS := hid (HROW1.out.set r (.bool true)); have HB2 := hid (HB1.out.setCell (p := ⟨w.heap.size, r, none⟩) (Nat.le_refl _) (.bool true)); clear hb1) | fail)
            go_roundw
            case rel => exact ⟨j + 1, by omega, by go_num, allTo_next HA.out HK.out, HS.out.congr (fun y hy => by
              rw [metG_succ HG.out HRR.out]
              by_cases h : y = r
              · rw [if_pos h, if_pos h]
              · rw [if_neg h, if_neg h]), HB2.out⟩
            case measure => simp [intOf]; omega
        | false =>
          have HOK := hid hok
          have HK := hid (onG_bad (rk := rankRes xs) (ok := rankB xs) HG.out hok)
          obtain ⟨r, hrr⟩ : ∃ r : Int, r = (rankRes xs) l := ⟨_, rfl⟩
          have HRR := hid hrr.symm
          clear hok hrr
          go_wp2_with (first | (go_at_call 86; refine (bruClo_any _ _ a xs l _ HCA1.out HS01.out HZ.out).mono ?_; rintro e w1 ⟨rfl, hb1⟩; rw [HOK.out, HRR.out]; have HB1 := hid (Below_chain HB.out hb1); clear hb1) | fail)
          go_ret
          exact ⟨ret_bool (HV.out.symm.trans (allTo_no hlt HK.out)).symm, HB1.out⟩
      · obtain rfl : j = L.length := by omega
        clear hbel hrow
        go_wp2_with fail
        go_ret
        exact ⟨ret_bool (HV.out.symm.trans HA.out).symm, HB.out⟩
  · have hbb : ((L.length : Int) != (count : Int)) = true := by simp; omega
    have HV := hid (show onA (rankRes xs) (rankB xs) count L = false by rw [onA, decide_eq_false hl, Bool.false_and])
    go_enter Try.func88, Try.ntmps88
    go_wp2_with fail
    go_ret
    exact ⟨ret_bool HV.out.symm, Below.refl _ _⟩
end Go.Proofs.Ytaajfpjekfmddab
