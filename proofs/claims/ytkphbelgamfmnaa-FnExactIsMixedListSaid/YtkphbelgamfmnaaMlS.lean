/- Contract: spec.IsMixedList. Conditions: the slices read as lists and are not nil. -/
import Derived.Test.YtkphbelgamfmnaaMlI
namespace Go.Proofs.Ytkphbelgamfmnaa
open Go.RowKit Go.Maps
set_option linter.unusedVariables false

theorem Try.infoB : (Try.prog.info? 4).map (fun i => (i.zero, i.size, i.bytes)) = some (some (.bool false), 1, 1) := by kernel_rfl
theorem run_make_bools (n : Nat) (hn : n ≤ 1048576) (w : World) : Sem.run Try.prog (Instr.makeSlice 39 (.int .i64 n) (.int .i64 n)) w = .ok (.slice (some ⟨w.heap.size, 0, none⟩) n n) (w.alloc (.cells (madeCells #[.bool false] n) 4)) :=
  run_make_row' 39 4 (.bool false) 1 Try.underlying39 Try.infoB rfl .i64 .i64 n (by omega) (by omega) w
set_option maxHeartbeats 2000000 in
theorem spec_IsMixedList_any (v u : Value) (xs : List Int) (L : List (List Int)) (w : World) (h : Sits w v xs) (h' : SitsL w u L) :
    Calls Try.prog 13 #[v, u] w fun e w' => e = .returned (.tuple #[.bool (mlV xs L), .bool (mlOk xs L)]) ∧ Below w.heap.size w w' := by
  have HSL := hid h'
  obtain ⟨b, off, c, rfl, hc1, hm, hb0, hc⟩ := h'
  have HS := hid h
  obtain ⟨ao, n0, c0, hv⟩ : ∃ ao n c, v = .slice ao n c := by obtain ⟨b', off', c', e, _⟩ := h; exact ⟨_, _, _, e⟩
  subst hv
  have HC := hid hc
  clear h hc
  by_cases hb : basesB xs = true
  · have HB := hid hb
    obtain ⟨hx12, hall, hple⟩ := basesB_iff.1 hb
    have HALL := hid hall
    obtain ⟨p, hp⟩ : ∃ p, p = prodTo xs xs.length := ⟨_, rfl⟩
    rw [← hp] at hple
    have HP := hid hp
    have HPI := hid (show ∀ p', ProdIs xs p' → p' = p from fun p' hpi => by rcases hpi with ⟨_, e⟩ | ⟨e, _⟩; exact e.trans HP.out.symm; exact absurd e (by rw [← HP.out]; omega))
    by_cases hl : L.length ≤ 1100
    · have HOK := hid (mlOk_yes hb hl)
      by_cases hpe : (L.length : Int) = p
      · have hbb : ((L.length : Int) != p) = false := by simpa using hpe
        have HV := hid (mlV_is HOK.out (hpe.trans hp))
        have HPE := hid hpe
        have hmk := run_make_bools L.length (by omega) w
        have HR0 := hid (World.rowIs_made w (.bool false) L.length 4)
        have HB0 := hid ((Below.refl w.heap.size w).alloc (Nat.le_refl _) (.cells (madeCells #[.bool false] L.length) 4))
        obtain ⟨wm, hwm⟩ : ∃ wm, wm = w.alloc (.cells (madeCells #[.bool false] L.length) 4) := ⟨_, rfl⟩
        rw [← hwm] at hmk HR0 HB0
        clear hwm hpe hp hb hall
        go_enter Try.func13, Try.ntmps13
        go_wp2_with (first
          | (go_at_call 28; refine (raBases_any _ xs _ HS.out).mono ?_; rintro e w1 ⟨rfl, rfl⟩; rw [HB.out])
          | (go_at_call 29; refine (raProduct_any _ xs _ HS.out HALL.out).mono ?_; rintro e w1 ⟨p', rfl, hpi, rfl⟩; rw [HPI.out p' hpi])
          | fail)
        go_loopw [7, 8, 29] (fun _ _ i wr => ∃ k : Nat, k ≤ L.length ∧ i = .int .i64 k ∧ allTo k (digL xs L) = true ∧ allTo k (nbL L) = true ∧ wr.rowIs w.heap.size 4 L.length (fun j => .bool (metB (rkAt xs L) k (j : Int))) ∧ Below w.heap.size w wr) (fun _ _ i _ => L.length - (intOf i).toNat)
        case atStart => exact ⟨0, Nat.zero_le _, rfl, rfl, rfl, HR0.out, HB0.out⟩
        case round =>
          obtain ⟨k, hk, rfl, hdig, hnb, hrow, hbel⟩ := hrel
          have HDIG := hid hdig
          have HNB := hid hnb
          have HROW := hid hrow
          have HBEL := hid hbel
          clear hdig hnb hrow
          by_cases hlt : k < L.length
          · obtain ⟨z, hz, hsit⟩ := HC.out k hlt
            have hcx : wr.cell? ⟨b, off + k, none⟩ = some z := (hbel.cell (by exact hb0)).trans hz
            have HZ := hid (hsit.below hbel)
            have HS1 := hid (HS.out.below hbel)
            obtain ⟨l, hl1⟩ : ∃ l, l = L[k] := ⟨_, rfl⟩
            have HGD := hid (show L.getD k [] = l by rw [hl1]; exact getDL hlt)
            rw [← hl1] at HZ
            clear hz hsit hl1
            have HDK := hid (show digL xs L k = areDig xs l by unfold digL; rw [HGD.out])
            by_cases hd : areDig xs l = true
            · have HD := hid hd
              obtain ⟨r, hr⟩ : ∃ r, r = rkAt xs L k := ⟨_, rfl⟩
              have HNM := hid (show numTo xs l l.length = r by rw [hr, rkAt, HGD.out])
              have hrr := rk_range (L := L) (i := k) HALL.out (by rw [HDK.out]; exact hd)
              rw [← hr, ← HP.out, ← HPE.out] at hrr
              obtain ⟨rn, hrn⟩ : ∃ rn : Nat, r = (rn : Int) := ⟨r.toNat, by omega⟩
              subst hrn
              have HR := hid hr
              have hrl : rn < L.length := by omega
              have hcz := HROW.out.cell hrl
              have hfz := HROW.out.frozen rn
              obtain ⟨zz, hzz⟩ : ∃ zz, wr.cell? ⟨w.heap.size, rn, none⟩ = some zz := ⟨_, hcz⟩
              have HR2 := hid (HROW.out.set rn (.bool true))
              have HB2 := hid (hbel.setCell (p := ⟨w.heap.size, rn, none⟩) (Nat.le_refl _) (.bool true))
              have HROW2 := hid (show (wr.setCell ⟨w.heap.size, rn, none⟩ (.bool true)).rowIs w.heap.size 4 L.length (fun j => .bool (metB (rkAt xs L) (k + 1) (j : Int))) from HR2.out.congr (fun j hj => by
                rw [metB_succ, ← HR.out]
                by_cases e : j = rn
                · subst e; simp
                · rw [if_neg e]
                  have : ((rn : Int) == (j : Int)) = false := by simp; omega
                  rw [this, Bool.or_false]))
              clear hd hr hrr hcz HR2 hbel
              cases k with
              | zero =>
                have hk0 : ((0 : Nat) : Int) = 0 := rfl
                have hcx0 : wr.cell? ⟨b, off, none⟩ = some z := hcx
                go_wp2_with (first
                  | (go_at_call 30; refine (raAreDigits_any _ _ xs l _ HS1.out HZ.out HALL.out).mono ?_; rintro e w1 ⟨rfl, rfl⟩; rw [HD.out])
                  | (go_at_call 32; refine (raNumber_any _ _ xs l _ HS1.out HZ.out HB.out HD.out).mono ?_; rintro e w1 ⟨rfl, rfl⟩; rw [HNM.out])
                  | fail)
                go_roundw
                case rel => exact ⟨1, by omega, by go_num, allTo_next HDIG.out (by rw [HDK.out]; exact HD.out), allTo_next HNB.out rfl, HROW2.out, HB2.out⟩
                case measure => simp [intOf]; omega
              | succ j =>
                obtain ⟨z', hz', hsit'⟩ := HC.out j (by omega)
                have hcy : wr.cell? ⟨b, off + j, none⟩ = some z' := (HBEL.out.cell (by exact hb0)).trans hz'
                have HZ' := hid (hsit'.below HBEL.out)
                obtain ⟨l', hl'⟩ : ∃ l, l = L[j] := ⟨_, rfl⟩
                have hg1 : L.getD j [] = l' := by rw [hl']; exact getDL (by omega)
                rw [← hl'] at HZ'
                have d1 := (allTo_iff _ _).1 HDIG.out j (by omega)
                unfold digL at d1
                rw [hg1] at d1
                have r1 := dig_range HALL.out d1
                have r2 := dig_range HALL.out HD.out
                have HR1 := hid r1.2
                have HR2 := hid r2.2
                have HLN := hid (show l.length = l'.length by rw [r1.1, r2.1])
                have HL12 := hid (show l'.length ≤ 12 by rw [r1.1]; exact hx12)
                have HNK := hid (show nbL L (j + 1) = stepB l' l by
                  unfold nbL
                  rw [HGD.out, show j + 1 - 1 = j from rfl, hg1]
                  rfl)
                have hcast : ((j + 1 : Nat) : Int) = (j : Int) + 1 := rfl
                have h0 : (0 : Int) < (j : Int) + 1 := by omega
                have hww : IntKind.i64.wrap ((j : Int) + 1 - 1) = (j : Int) := by rw [show (j : Int) + 1 - 1 = j by omega]; exact IntWalk.i64_in _ (by omega)
                have hwj : IntKind.i64.wrap (j : Int) = (j : Int) := IntWalk.i64_in _ (by omega)
                have hj0 : (0 : Int) ≤ (j : Int) := by omega
                have hj1 : (j : Int) < (L.length : Int) := by omega
                clear hz' hsit' hl' hg1 d1 r1 r2
                cases hs : stepB l' l with
                | true =>
                  have HST := hid hs
                  clear hs
                  go_wp2_with (first
                    | (go_at_call 30; refine (raAreDigits_any _ _ xs l _ HS1.out HZ.out HALL.out).mono ?_; rintro e w1 ⟨rfl, rfl⟩; rw [HD.out])
                    | (go_at_call 31; refine (gcStep_all _ _ l' l _ HZ'.out HZ.out HLN.out HL12.out HR1.out HR2.out).mono ?_; rintro e w1 ⟨⟨q, rfl, hq⟩, rfl⟩; have hq1 : ¬ q < 0 := (by rw [HST.out] at hq; exact of_decide_eq_false hq); have hq2 : 0 ≤ q := (by omega); clear hq)
                    | (go_at_call 32; refine (raNumber_any _ _ xs l _ HS1.out HZ.out HB.out HD.out).mono ?_; rintro e w1 ⟨rfl, rfl⟩; rw [HNM.out])
                    | fail)
                  go_roundw
                  case rel => exact ⟨j + 1 + 1, by omega, by go_num, allTo_next HDIG.out (by rw [HDK.out]; exact HD.out), allTo_next HNB.out (by rw [HNK.out]; exact HST.out), HROW2.out, HB2.out⟩
                  case measure => simp [intOf]; omega
                | false =>
                  have HST := hid hs
                  clear hs
                  go_wp2_with (first
                    | (go_at_call 30; refine (raAreDigits_any _ _ xs l _ HS1.out HZ.out HALL.out).mono ?_; rintro e w1 ⟨rfl, rfl⟩; rw [HD.out])
                    | (go_at_call 31; refine (gcStep_all _ _ l' l _ HZ'.out HZ.out HLN.out HL12.out HR1.out HR2.out).mono ?_; rintro e w1 ⟨⟨q, rfl, hq⟩, rfl⟩; have hq1 : q < 0 := (by rw [HST.out] at hq; exact of_decide_eq_true hq); clear hq)
                    | fail)
                  go_ret2
                  exact ⟨ret_bb (by rw [HV.out, allTo_no hlt (f := nbL L) (by rw [HNK.out]; exact HST.out), Bool.and_false]) HOK.out.symm, HBEL.out⟩
            · have hd : areDig xs l = false := by simpa using hd
              have HD := hid hd
              clear hd hbel
              go_wp2_with (first
                | (go_at_call 30; refine (raAreDigits_any _ _ xs l _ HS1.out HZ.out HALL.out).mono ?_; rintro e w1 ⟨rfl, rfl⟩; rw [HD.out])
                | fail)
              go_ret2
              exact ⟨ret_bb (by rw [HV.out, allTo_no hlt (f := digL xs L) (by rw [HDK.out]; exact HD.out), Bool.false_and, Bool.false_and]) HOK.out.symm, HBEL.out⟩
          · obtain rfl : k = L.length := by omega
            have HCV := hid (once_cover (f := rkAt xs L) (n := L.length) (fun i hi => by
              have := rk_range (L := L) (i := i) HALL.out ((allTo_iff _ _).1 HDIG.out i hi)
              rw [← HP.out, ← HPE.out] at this
              exact this))
            rw [HDIG.out, HNB.out, Bool.true_and, Bool.and_true, ← HCV.out] at HV
            clear hbel
            obtain ⟨w9, hw9⟩ : ∃ w9, w9 = wr := ⟨_, rfl⟩
            subst hw9
            go_wp2_with fail
            go_loopw [10, 60] (fun _ i wq => ∃ t : Nat, t ≤ L.length ∧ i = .int .i64 t ∧ allTo t (fun r => metB (rkAt xs L) L.length (r : Int)) = true ∧ w9 = wq) (fun _ i _ => L.length - (intOf i).toNat)
            case atStart => exact ⟨0, Nat.zero_le _, rfl, rfl, rfl⟩
            case round =>
              obtain ⟨t, ht, rfl, hall2, rfl⟩ := hrel
              have HA2 := hid hall2
              clear hall2
              by_cases htl : t < L.length
              · have hct := HROW.out.cell htl
                cases hmb : metB (rkAt xs L) L.length (t : Int) with
                | true =>
                  rw [hmb] at hct
                  have HMB := hid hmb
                  clear hmb
                  go_wp2_with fail
                  go_roundw
                  case rel => exact ⟨t + 1, by omega, by go_num, allTo_next HA2.out HMB.out, trivial⟩
                  case measure => simp [intOf]; omega
                | false =>
                  rw [hmb] at hct
                  have HMB := hid hmb
                  clear hmb
                  go_wp2_with fail
                  go_ret2
                  exact ⟨ret_bb (by rw [HV.out]; exact (allTo_no htl HMB.out).symm) HOK.out.symm, HBEL.out⟩
              · obtain rfl : t = L.length := by omega
                go_wp2_with fail
                go_ret2
                exact ⟨ret_bb (by rw [HV.out]; exact HA2.out.symm) HOK.out.symm, HBEL.out⟩
      · have hbb : ((L.length : Int) != p) = true := by simpa using hpe
        have HV := hid (mlV_len (xs := xs) (L := L) (by rw [← hp]; exact hpe))
        clear hp hb
        go_enter Try.func13, Try.ntmps13
        go_wp2_with (first
          | (go_at_call 28; refine (raBases_any _ xs _ HS.out).mono ?_; rintro e w1 ⟨rfl, rfl⟩; rw [HB.out])
          | (go_at_call 29; refine (raProduct_any _ xs _ HS.out HALL.out).mono ?_; rintro e w1 ⟨p', rfl, hpi, rfl⟩; rw [HPI.out p' hpi])
          | fail)
        go_ret2
        exact ⟨ret_bb HV.out.symm HOK.out.symm, Below.refl _ _⟩
    · have HOK := hid (mlOk_no2 (xs := xs) (L := L) hl)
      have HV := hid (mlV_no HOK.out)
      clear hp hb
      go_enter Try.func13, Try.ntmps13
      go_wp2_with (first
        | (go_at_call 28; refine (raBases_any _ xs _ HS.out).mono ?_; rintro e w1 ⟨rfl, rfl⟩; rw [HB.out])
        | fail)
      go_ret2
      exact ⟨ret_bb HV.out.symm HOK.out.symm, Below.refl _ _⟩
  · have hb : basesB xs = false := by simpa using hb
    have HB := hid hb
    have HOK := hid (mlOk_no1 (L := L) hb)
    have HV := hid (mlV_no HOK.out)
    clear hb
    go_enter Try.func13, Try.ntmps13
    go_wp2_with (first
      | (go_at_call 28; refine (raBases_any _ xs _ HS.out).mono ?_; rintro e w1 ⟨rfl, rfl⟩; rw [HB.out])
      | fail)
    go_ret2
    exact ⟨ret_bb HV.out.symm HOK.out.symm, Below.refl _ _⟩
end Go.Proofs.Ytkphbelgamfmnaa
