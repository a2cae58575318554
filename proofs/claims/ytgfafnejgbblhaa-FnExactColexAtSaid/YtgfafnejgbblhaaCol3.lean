/- Contracts: both ColexAt functions. Conditions: none. -/
import Derived.Test.YtgfafnejgbblhaaCol1
import Derived.Test.YtgfafnejgbblhaaCAt2
namespace Go.Proofs.Ytgfafnejgbblhaa
open Go.RowKit
set_option linter.unusedVariables false

def backRow (k : Nat) (out : List Int) (j : Nat) : Int := if k ≤ j then out.getD (j - k) 0 else 0
theorem backRow_set {w : World} {g n j : Nat} {out : List Int} {x : Int} (h : w.rowIs g 3 n (fun i => .int .i64 (backRow (j + 1) out i))) :
    (w.setCell ⟨g, j, none⟩ (.int .i64 x)).rowIs g 3 n (fun i => .int .i64 (backRow j (x :: out) i)) := by
  refine (h.set j (.int .i64 x)).congr (fun i hi => ?_)
  unfold backRow
  by_cases e : i = j
  · subst e
    simp
  · rw [if_neg e]
    by_cases h1 : j + 1 ≤ i
    · rw [if_pos h1, if_pos (by omega), show i - j = (i - (j + 1)) + 1 by omega]
      simp
    · rw [if_neg h1, if_neg (by omega)]
def cxB (k r : Int) : Bool := inB k 0 12 && ofB (colL 12 k.toNat) r
def cxRes (k r : Int) : List Int := if cxB k r = true then (colL 12 k.toNat).getD r.toNat [] else []
theorem cxRes_yes {k r : Int} (h : cxB k r = true) : cxRes k r = (colL 12 k.toNat).getD r.toNat [] := by unfold cxRes; rw [if_pos h]
theorem cxRes_no {k r : Int} (h : cxB k r = false) : cxRes k r = [] := by unfold cxRes; rw [if_neg (by rw [h]; simp)]
theorem bound_ColexAt (k r : Int) : (cxRes k r).length ≤ 1048576 := by
  by_cases h : cxB k r = true
  · rw [cxRes_yes h]
    simp only [cxB, Bool.and_eq_true, ofB, inB_iff] at h
    have hlt : r.toNat < (colL 12 k.toNat).length := by omega
    have := (colL_elem 12 k.toNat ((colL 12 k.toNat)[r.toNat]) (List.getElem_mem _)).1
    rw [List.getD_eq_getElem?_getD, List.getElem?_eq_getElem hlt, Option.getD_some, this]
    omega
  · rw [cxRes_no (by simpa using h)]; simp
theorem spec_ColexAt_any (k r : Int) (w : World) (_wk : (Lit.int .i64 k).wf = true) (_wr : (Lit.int .i64 r).wf = true) :
    Calls Try.prog 33 #[.int .i64 k, .int .i64 r] w fun e w' => ∃ u, e = .returned (.tuple #[u, .bool (cxB k r)]) ∧ Own w' w.heap.size u (cxRes k r) ∧ Below w.heap.size w w' := by
  by_cases h2 : inB k 0 12 = true
  · obtain ⟨K, rfl, hK⟩ := inB_nat3 h2
    have HE : Hid (cxB (K : Int) r = ofB (colL 12 K) r) := by
      show cxB (K : Int) r = ofB (colL 12 K) r
      rw [cxB, h2]; rfl
    have HER : Hid (cxRes (K : Int) r = ofRes (colL 12 K) r) := by
      show cxRes (K : Int) r = ofRes (colL 12 K) r
      unfold cxRes ofRes
      rw [HE.out]; rfl
    have HALL := hid (raColex_any 12 K w (Nat.le_refl _) hK)
    have HBD := hid (show (colL 12 K).length ≤ 100000 from Nat.le_trans (colL_bound 12 (Nat.le_refl _) K hK) (by omega))
    have HEL := hid (show ∀ l ∈ colL 12 K, l.length ≤ 12 from fun l hl => by rw [(colL_elem 12 K l hl).1]; exact hK)
    go_enter Try.func33, Try.ntmps33
    go_wp2_with (first
      | (go_at_call 46; refine (raItems_any _ _).mono ?_; rintro e w' ⟨rfl, rfl⟩)
      | (go_at_call 60; refine HALL.out.mono ?_; rintro e w1 ⟨u, rfl, hu, hb1⟩; have HU := hid hu; have HB := hid hb1; clear hu hb1)
      | (go_at_call 58; refine (raOf_any _ (colL 12 K) r _ _ HU.out HBD.out HEL.out).mono ?_; rintro e w2 ⟨u2, rfl, hu2, hb2⟩; have HU2 := hid hu2; have HB2 := hid (Below_chain HB.out hb2); clear hu2 hb2)
      | fail)
    go_ret2
    exact ⟨_, ret_sb6 HE.out.symm, by rw [HER.out]; exact HU2.out.mono HB.out.size, HB2.out⟩
  · have h2 : inB k 0 12 = false := by simpa using h2
    have HF : Hid (cxB k r = false) := by
      show cxB k r = false
      rw [cxB, h2]; simp
    have HX := hid (cxRes_no HF.out)
    go_enter Try.func33, Try.ntmps33
    go_wp2_with (first | (go_at_call 46; refine (raItems_any _ _).mono ?_; rintro e w' ⟨rfl, rfl⟩) | fail)
    go_ret2
    exact ⟨_, ret_sb6 HF.out.symm, by rw [HX.out]; exact Own.nil _ _, Below.refl _ _⟩
/-- how far the loop of ColexAt has come: m elements to find, all below x, the rank left, the elements found -/
def ColInv (all : List Int) (x r m : Nat) (tail : List Int) : Prop := r < (colL x m).length ∧ (colL x m).getD r [] ++ tail = all
theorem ColInv.pos {all tail : List Int} {x r m : Nat} (h : ColInv all x r (m + 1) tail) : 0 < x := by
  cases x with
  | zero => have := h.1; simp [colL] at this
  | succ x => omega
theorem ColInv.down {all tail : List Int} {x r m : Nat} (h : ColInv all (x + 1) r (m + 1) tail) (hr : r < binom x (m + 1)) : ColInv all x r (m + 1) tail := by
  obtain ⟨h1, h2⟩ := h
  rw [colL] at h2
  rw [← colL_len] at hr
  refine ⟨hr, ?_⟩
  rw [← h2, List.getD_eq_getElem?_getD, List.getD_eq_getElem?_getD, List.getElem?_append_left hr]
theorem ColInv.take {all tail : List Int} {x r m : Nat} (h : ColInv all (x + 1) r (m + 1) tail) (hr : ¬ r < binom x (m + 1)) : ColInv all x (r - binom x (m + 1)) m ((x : Int) :: tail) := by
  obtain ⟨h1, h2⟩ := h
  rw [colL] at h1 h2
  rw [List.length_append, List.length_map] at h1
  rw [← colL_len] at hr ⊢
  have hlt : r - (colL x (m + 1)).length < (colL x m).length := by omega
  refine ⟨hlt, ?_⟩
  rw [← h2, List.getD_eq_getElem?_getD, List.getD_eq_getElem?_getD, List.getElem?_append_right (by omega), List.getElem?_map, List.getElem?_eq_getElem hlt]
  simp
set_option maxHeartbeats 800000 in
theorem impl_ColexAt_any (k r : Int) (w : World) (_wk : (Lit.int .i64 k).wf = true) (_wr : (Lit.int .i64 r).wf = true) :
    Calls Try.prog 34 #[.int .i64 k, .int .i64 r] w fun e w' => ∃ u, e = .returned (.tuple #[u, .bool (cxB k r)]) ∧ Own w' w.heap.size u (cxRes k r) ∧ Below w.heap.size w w' := by
  by_cases h2 : inB k 0 12 = true
  · obtain ⟨K, rfl, hK⟩ := inB_nat3 h2
    have hlen := colL_len 12 K
    have hbb := binom_le 12 (by omega) K (by omega)
    have HCZ := hid (show chooseZ (12 : Int) (K : Int) = binom 12 K from chooseZ_nat 12 K (by omega) (by omega))
    by_cases h3 : 0 ≤ r
    · obtain ⟨R, rfl⟩ := Int.eq_ofNat_of_zero_le h3
      by_cases h4 : R < binom 12 K
      · have HF : Hid (cxB (K : Int) (R : Int) = true) := by
          show cxB (K : Int) (R : Int) = true
          rw [cxB, h2]; simp [ofB, inB, hlen]; omega
        have HX := hid (cxRes_yes HF.out)
        obtain ⟨all, hall⟩ : ∃ all, all = (colL 12 K).getD R [] := ⟨_, rfl⟩
        have HI0 : Hid (ColInv all 12 R K []) := hid ⟨by rw [hlen]; exact h4, by rw [hall]; simp⟩
        have HALL := hid hall
        have HAL := hid (show all.length = K by
          have hlt : R < (colL 12 K).length := by rw [hlen]; exact h4
          rw [hall, List.getD_eq_getElem?_getD, List.getElem?_eq_getElem hlt, Option.getD_some, (colL_elem 12 K _ (List.getElem_mem _)).1])
        have hmk := run_make_ints K (by omega) w
        have HM := hid (World.rowIs_made w (.int .i64 0) K 3)
        have HB0 := hid ((Below.refl w.heap.size w).alloc (Nat.le_refl _) (.cells (madeCells #[.int .i64 0] K) 3))
        obtain ⟨B, hB⟩ : ∃ B, B = binom 12 K := ⟨_, rfl⟩
        rw [← hB] at h4 hbb HCZ
        clear hlen hall hB
        go_enter Try.func34, Try.ntmps34
        go_wp2_with (first
          | (go_at_call 48; refine (isItemCount_any _ _).mono ?_; rintro e w' ⟨rfl, rfl⟩)
          | (go_at_call 51; refine (choose_any _ _ _ (by omega) (by omega)).mono ?_; rintro e w' ⟨rfl, rfl⟩; rw [HCZ.out])
          | fail)
        clear hmk
        have hdec : decide (B ≤ R) = false := by simp; omega
        simp only [hdec, Bool.or_false]
        clear hdec
        go_loopw [1, 7, 8] (fun rv xv iv wr => ∃ (x R' m : Nat) (tail : List Int), xv = .int .i64 x ∧ x ≤ 12 ∧ rv = .int .i64 R' ∧ R' ≤ 2000 ∧ iv = .int .i64 ((m : Int) - 1) ∧ m ≤ K ∧ ColInv all x R' m tail ∧ wr.rowIs w.heap.size 3 K (fun j => .int .i64 (backRow m tail j)) ∧ Below w.heap.size w wr) (fun _ _ iv _ => (intOf iv + 1).toNat)
        case atStart => exact ⟨12, R, K, [], rfl, Nat.le_refl _, rfl, by omega, rfl, Nat.le_refl _, HI0.out, World.rowIs.congr HM.out (fun i hi => by rw [backRow, if_neg (by omega)]), HB0.out⟩
        case round =>
          obtain ⟨x, R', m, tail, rfl, hx12, rfl, hR', rfl, hmK, hinv, hrow, hbel⟩ := hrel
          have HINV := hid hinv
          have HB := hid hbel
          clear hinv
          cases m with
          | zero =>
            rw [show (((0 : Nat) : Int) - 1) = -1 from rfl]
            have HR := hid hrow
            have HE : Hid (tail = all) := by
              show tail = all
              obtain ⟨a1, a2⟩ := HINV.out
              have e : colL x 0 = [[]] := by cases x <;> rfl
              rw [e] at a1 a2
              have : R' = 0 := by simpa using a1
              rw [this] at a2
              simpa using a2
            clear hrow hbel
            go_wp2_with fail
            go_ret2
            exact ⟨_, ret_sb6 HF.out.symm, by rw [HX.out, Int.toNat_natCast, Int.toNat_natCast, ← HALL.out, ← HE.out]; exact Own.of_rowIs (HR.out.congr (fun i hi => by rw [backRow, if_pos (Nat.zero_le _), Nat.sub_zero])) (by rw [HE.out, HAL.out]) (by unfold maxLen; omega), HB.out⟩
          | succ j =>
            rw [show (((j + 1 : Nat) : Int) - 1) = (j : Int) from by omega]
            have hxp := HINV.out.pos
            obtain ⟨y, rfl⟩ : ∃ y, x = y + 1 := ⟨x - 1, by omega⟩
            rw [show (((y + 1 : Nat) : Int)) = (y : Int) + 1 from by omega]
            have hj : j < K := by omega
            have hf := hrow.frozen j
            obtain ⟨z, hz⟩ : ∃ z, wr.cell? ⟨w.heap.size, j, none⟩ = some z := ⟨_, hrow.cell hj⟩
            have HROW := hid hrow
            clear hrow hbel
            have hjp : ((j : Int) ≥ 0) := by omega
            go_wp2_with fail
            go_loop [7] (fun xv => ∃ x : Nat, x < 12 ∧ xv = .int .i64 x ∧ ColInv all (x + 1) R' (j + 1) tail) (fun xv => (intOf xv).toNat)
            case atStart => exact ⟨y, by omega, by first | rfl | go_num, HINV.out⟩
            case round =>
              obtain ⟨x, hx, rfl, hinv⟩ := hrel
              have HIN := hid hinv
              clear hinv
              have hbn : binom x (j + 1) ≤ 924 := binom_le _ (by omega) _ (by omega)
              have HCH : Hid (chooseZ (x : Int) ((j : Int) + 1) = binom x (j + 1)) := by
                show chooseZ (x : Int) ((j : Int) + 1) = binom x (j + 1)
                rw [show ((j : Int) + 1) = ((j + 1 : Nat) : Int) by omega]
                exact chooseZ_nat _ _ (by omega) (by omega)
              obtain ⟨C, hC⟩ : ∃ C, C = binom x (j + 1) := ⟨_, rfl⟩
              rw [← hC] at hbn HCH
              by_cases hr : R' < C
              · have HD := hid (HIN.out.down (by rw [← hC]; exact hr))
                have hxp2 := HD.out.pos
                obtain ⟨x', rfl⟩ : ∃ x', x = x' + 1 := ⟨x - 1, by omega⟩
                have HCH2 : Hid (chooseZ ((x' : Int) + 1) ((j : Int) + 1) = C) := by
                  show chooseZ ((x' : Int) + 1) ((j : Int) + 1) = C
                  rw [show ((x' : Int) + 1) = ((x' + 1 : Nat) : Int) by omega]
                  exact HCH.out
                clear hC HCH
                go_wp2_with (first
                  | (go_at_call 51; refine (choose_any _ _ _ (by omega) (by omega)).mono ?_; rintro e w' ⟨rfl, rfl⟩; rw [HCH2.out])
                  | fail)
                go_round
                case rel => exact ⟨x', by omega, by go_num, HD.out⟩
                case measure => simp [intOf]; try omega
              · have HT := hid (HIN.out.take (by rw [← hC]; exact hr))
                rw [← hC] at HT
                have HSB := hid (show ((R' - C : Nat) : Int) = (R' : Int) - (C : Int) by omega)
                have HSS := hid (backRow_set (x := (x : Int)) HROW.out)
                have HBS := hid (HB.out.setCell (p := ⟨w.heap.size, j, none⟩) (Nat.le_refl _) (.int .i64 (x : Int)))
                clear hC
                go_wp2_with (first
                  | (go_at_call 51; refine (choose_any _ _ _ (by omega) (by omega)).mono ?_; rintro e w' ⟨rfl, rfl⟩; rw [HCH.out])
                  | fail)
                go_roundw
                case rel => exact ⟨x, R' - C, j, (x : Int) :: tail, rfl, by omega, by rw [HSB.out], by omega, by go_num, by omega, HT.out, HSS.out, HBS.out⟩
                case measure => simp [intOf]; try omega
      · have HF : Hid (cxB (K : Int) (R : Int) = false) := by
          show cxB (K : Int) (R : Int) = false
          rw [cxB, h2]; simp [ofB, inB, hlen]; omega
        have HX := hid (cxRes_no HF.out)
        have hge : (binom 12 K : Int) ≤ (R : Int) := by omega
        obtain ⟨B, hB⟩ : ∃ B, B = binom 12 K := ⟨_, rfl⟩
        rw [← hB] at h4 hbb HCZ hge
        clear hlen hB
        go_enter Try.func34, Try.ntmps34
        go_wp2_with (first
          | (go_at_call 48; refine (isItemCount_any _ _).mono ?_; rintro e w' ⟨rfl, rfl⟩)
          | (go_at_call 51; refine (choose_any _ _ _ (by omega) (by omega)).mono ?_; rintro e w' ⟨rfl, rfl⟩; rw [HCZ.out])
          | fail)
        go_ret2
        exact ⟨_, ret_sb6 HF.out.symm, by rw [HX.out]; exact Own.nil _ _, Below.refl _ _⟩
    · have HF : Hid (cxB (K : Int) r = false) := by
        show cxB (K : Int) r = false
        rw [cxB, h2]; simp [ofB, inB]; omega
      have HX := hid (cxRes_no HF.out)
      clear hlen
      go_enter Try.func34, Try.ntmps34
      go_wp2_with (first | (go_at_call 48; refine (isItemCount_any _ _).mono ?_; rintro e w' ⟨rfl, rfl⟩) | fail)
      go_ret2
      exact ⟨_, ret_sb6 HF.out.symm, by rw [HX.out]; exact Own.nil _ _, Below.refl _ _⟩
  · have h2 : inB k 0 12 = false := by simpa using h2
    have HF : Hid (cxB k r = false) := by
      show cxB k r = false
      rw [cxB, h2]; simp
    have HX := hid (cxRes_no HF.out)
    go_enter Try.func34, Try.ntmps34
    go_wp2_with (first | (go_at_call 48; refine (isItemCount_any _ _).mono ?_; rintro e w' ⟨rfl, rfl⟩) | fail)
    go_ret2
    exact ⟨_, ret_sb6 HF.out.symm, by rw [HX.out]; exact Own.nil _ _, Below.refl _ _⟩
end Go.Proofs.Ytgfafnejgbblhaa
