/- Contracts: changesAround and both IsRoundCode functions. Conditions: the slice reads as a list of at most 2^20 numbers; the table of math/bits holds what the program's text lays. -/
import Derived.Test.YteejdagnlepegaaDoorRound
namespace Go.Proofs.YteejdagnlepegaaDoor
open Go.RowKit
set_option linter.unusedVariables false

def irB (n : Int) (xs : List Int) : Bool := wordsB n xs && roundB n xs
def irRes (n : Int) (xs : List Int) : List Int := if irB n xs = true then deltasL (ringL xs) else []
theorem irRes_yes {n : Int} {xs : List Int} (h : irB n xs = true) : irRes n xs = deltasL (ringL xs) := by unfold irRes; rw [if_pos h]
theorem irRes_no {n : Int} {xs : List Int} (h : irB n xs = false) : irRes n xs = [] := by unfold irRes; rw [if_neg (by rw [h]; simp)]
theorem Own.sits_pos {w : World} {lo : Nat} {v : Value} {xs : List Int} (h : Own w lo v xs) (hx : 0 < xs.length) : Sits w v xs := by
  rcases h.form with ⟨_, h2⟩ | ⟨g, cap, rfl, _, _, _, _, _, _⟩
  · rw [h2] at hx; simp at hx
  · exact h.sits
theorem row_late {w : World} {lo : Nat} {v : Value} {xs : List Int} {n : Nat} (h : Own w lo v xs) (hn : xs.length = n) (o : Obj) : (w.alloc o).ownsRow lo 3 1 v n (xs.map (Value.int .i64)) := by
  have := (h.below ((Below.refl _ _).alloc (Nat.le_refl _) o)).row
  rwa [hn] at this
theorem row_now {w : World} {lo : Nat} {v : Value} {xs : List Int} {n : Nat} (h : Own w lo v xs) (hn : xs.length = n) : w.ownsRow lo 3 1 v n (xs.map (Value.int .i64)) := by
  have := h.row
  rwa [hn] at this
theorem ring_own {w : World} {lo : Nat} {v : Value} {xs : List Int} {y : Int} (hy : xs.getD 0 0 = y) (h : w.ownsRow lo 3 1 v (xs.length + 1) (xs.map (Value.int .i64) ++ [.int .i64 y])) : Own w lo v (ringL xs) := by
  unfold ringL
  rw [hy]
  exact Own.snoc h
theorem lit_cell {w w' : World} {x : Int} (hb : Below (w.drew.alloc (.cells #[.int .i64 x] 3)).heap.size (w.drew.alloc (.cells #[.int .i64 x] 3)) w') :
    ∀ (j : Nat) (u : Value), [Value.int .i64 x][j]? = some u → w'.cell? ((⟨w.heap.size, 0, none⟩ : Addr).add j) = some u := by
  intro j u hj
  have h1 := new_cell1 (w := w.drew) (T := 3) j hj
  have : w.drew.heap.size = w.heap.size := rfl
  rw [this] at h1
  match j, hj with
  | 0, hj =>
    simp [Addr.add] at h1 ⊢
    rw [hb.cell (by simp)]
    exact h1
set_option maxHeartbeats 4000000 in
theorem changesAround_any (n : Int) (v : Value) (xs : List Int) (w : World) (_wn : (Lit.int .i64 n).wf = true) (h : Sits w v xs) (hl : xs.length ≤ 1048576) (_hwf : ∀ x ∈ xs, (Lit.int .i64 x).wf = true) (ht : TZ w) :
    Calls Tryd.prog 37 #[.int .i64 n, v] w fun e w' => ∃ u, e = .returned (.tuple #[u, .bool (irB n xs)]) ∧ Own w' w.heap.size u (irRes n xs) ∧ Below w.heap.size w w' := by
  have HV := hid h
  have HT := hid ht
  have HW := hid _hwf
  have _wn' := _wn
  obtain ⟨b, off, c, rfl, hc1, hm, hb, hc⟩ := h
  have hl20 : xs.length ≤ 1048576 := hl
  clear ht _hwf
  by_cases hcode : icV n xs = true
  · have h1 : wordsB n xs = true := by simp only [icV, Bool.and_eq_true] at hcode; exact hcode.1
    have h2 : codeB n xs = true := by simp only [icV, Bool.and_eq_true] at hcode; exact hcode.2
    have hsm := wordsB_small h1
    obtain ⟨f1, f2, f3⟩ := codeB_facts (wordsB_iff.1 h1).1 h2
    obtain ⟨y, hy, hy2⟩ := hsm 0 f2
    have HRS := hid (ring_small hsm f2)
    have HF : Hid (irB n xs = deltasB (ringL xs)) := by show _ = _; rw [irB, h1, roundB, h2, ring_deltas f2 f1]; rfl
    have HX : Hid (irRes n xs = deltasR (ringL xs)) := by
      show _ = _
      cases hr : deltasB (ringL xs) with
      | false => rw [irRes_no (by rw [HF.out, hr]), deltasR_no hr]
      | true => rw [irRes_yes (by rw [HF.out, hr]), deltasR_yes hr]
    have HCO := hid hcode
    have HY := hid hy
    have HRL := hid (show (ringL xs).length ≤ 1048576 by rw [ringL_length]; omega)
    have HRP := hid (show 0 < (ringL xs).length by rw [ringL_length]; omega)
    have hcf : w.cell? ⟨b, off, none⟩ = some (.int .i64 (y : Int)) := by
      have h0 := hc 0 f2
      rw [Nat.add_zero, ← getD_at f2, hy] at h0
      exact h0
    have e5 : (0 : Int) < (xs.length : Int) := by omega
    obtain ⟨i0, hi, hz0, hz1, hz2⟩ := info_parts Tryd.info3
    have hA : xs.length + 1 ≤ maxLen := by unfold maxLen; omega
    have hB : (xs.length + 1) * 8 ≤ 140737488355328 := by omega
    clear hc hcode hsm hy h1 h2 f1
    go_enter Tryd.func37, Tryd.ntmps37
    go_wp2_with (first
      | (go_at_call 19; refine (impl_IsCode_any _ _ xs _ _wn' HV.out hl20 HW.out HT.out).mono ?_; rintro e w1 ⟨rfl, hb1⟩; rw [HCO.out]; have HB1 := hid hb1; have HV1 := hid (HV.out.below hb1); have hcf1 := (hb1.cell (p := ⟨b, off, none⟩) (by exact hb)).trans hcf; have hsz1 := hb1.size; clear hb1)
      | fail)
    have hcfd : w1.drew.cell? ⟨b, off, none⟩ = some (.int .i64 (y : Int)) := hcf1
    have hb1' : b < w1.heap.size := by omega
    go_region_held3 (fun w' => w'.cell? ⟨b, off, none⟩ = some (.int .i64 (y : Int)))
      (first | exact hcfd | exact (HB4.out.cell (by exact hb1')).trans hcf1 | exact (HB3.out.cell (by exact hb1')).trans hcf1 | exact (HB2.out.cell (by exact hb1')).trans hcf1 | exact ((HB2.out.alloc HB2.out.size _).cell (by exact hb1')).trans hcf1 | exact ((Below.drew_alloc _).cell (by exact hb1')).trans hcf1 | go_keep | fail)
      (first
        | (go_at_call 54; refine (copyOf_any _ xs _ ?_ hl20).mono ?_; (exact HV1.out.below (Below.refl _ _).drew); rintro e w2 ⟨rfl, hrow2, hb2⟩; have HO2 := hid (copy_own hl20 hrow2); have HB2 := hid (Below_chain (Below.refl w1.heap.size w1).drew hb2); clear hrow2 hb2)
        | (go_at_call 54; refine (copyOf_any _ xs _ ?_ hl20).mono ?_; (exact HV1.out.below (Below.drew_alloc _)); rintro e w2 ⟨rfl, hrow2, hb2⟩; have HO2 := hid (copy_own hl20 hrow2); have HLC := hid (lit_cell hb2); have HSZ2 := hid (show w1.heap.size + 1 ≤ w2.heap.size by have := hb2.size; simpa using this); have HB2 := hid (Below_chain (Below.drew_alloc (w := w1) (.cells #[.int .i64 (y : Int)] 3)) hb2); clear hrow2 hb2)
        | (refine step_append_any _ rfl _ _ _ rfl w1.heap.size 3 i0 (.int .i64 0) 1 8 Tryd.underlying22 hi hz0 hz1 hz2 rfl Nat.zero_lt_one (.slice (some ⟨w1.heap.size, 0, none⟩) xs.length xs.length) xs.length (xs.map (Value.int .i64)) rfl (row_late HO2.out rfl _) ⟨w2.heap.size, 0, none⟩ 1 1 [.int .i64 (y : Int)] rfl rfl (fun j u hj => new_cell1 j hj) (one_cell9 _ _) hA hB (Nat.le_trans HB2.out.size (by simp)) ?_; intro v' w3 hown' hgrow hnil; have HO3 := hid (ring_own HY.out hown'); have HB3 := hid ((HB2.out.alloc HB2.out.size _).grown hgrow (Nat.le_trans HB2.out.size (by simp)) (fun q hq => (World.ownsRow.lt (row_now HO2.out rfl) q hq).1)); clear hown' hgrow hnil)
        | (refine step_append_any _ rfl _ _ _ rfl (w1.heap.size + 1) 3 i0 (.int .i64 0) 1 8 Tryd.underlying22 hi hz0 hz1 hz2 rfl Nat.zero_lt_one (.slice (some ⟨w1.heap.size + 1, 0, none⟩) xs.length xs.length) xs.length (xs.map (Value.int .i64)) rfl (row_now (by simpa using HO2.out) rfl) ⟨w1.heap.size, 0, none⟩ 1 1 [.int .i64 (y : Int)] rfl rfl HLC.out (one_cell9 _ _) hA hB HSZ2.out ?_; intro v' w3 hown' hgrow hnil; have HO3 := hid ((ring_own HY.out hown').mono (Nat.le_succ _)); have HB3 := hid (HB2.out.grown hgrow HB2.out.size (fun q hq => Nat.le_of_succ_le (World.ownsRow.lt (row_now (by simpa using HO2.out) rfl) q hq).1)); clear hown' hgrow hnil)
        | (go_at_call 31; refine (changesAlong_any _ (ringL xs) _ (HO3.out.sits_pos HRP.out) HRS.out HRL.out (HT.out.below (Below_chain HB1.out HB3.out))).mono ?_; rintro e w4 ⟨u4, rfl, ho4, hb4⟩; have HO4 := hid ho4; have HB4 := hid (Below_chain HB3.out hb4); clear ho4 hb4)
        | fail)
    all_goals
      go_wp2_with fail
      go_ret2
      exact ⟨_, ret_sb8 HF.out.symm, by rw [HX.out]; exact HO4.out.mono (Nat.le_trans hsz1 HB3.out.size), Below_chain HB1.out HB4.out⟩
  · have hcode : icV n xs = false := by simpa using hcode
    have HCO := hid hcode
    have HF : Hid (irB n xs = false) := by
      show _ = _
      cases h1 : wordsB n xs with
      | false => rw [irB, h1]; rfl
      | true =>
        rw [icV, h1, Bool.true_and] at hcode
        rw [irB, roundB, hcode]; simp
    have HX := hid (irRes_no HF.out)
    clear hc hcode
    go_enter Tryd.func37, Tryd.ntmps37
    go_wp2_with (first
      | (go_at_call 19; refine (impl_IsCode_any _ _ xs _ _wn' HV.out hl20 HW.out HT.out).mono ?_; rintro e w1 ⟨rfl, hb1⟩; rw [HCO.out]; have HB1 := hid hb1; clear hb1)
      | fail)
    go_ret2
    exact ⟨_, ret_sb8 HF.out.symm, by rw [HX.out]; exact Own.nil _ _, HB1.out⟩
theorem spec_IsRoundCode_any (n : Int) (v : Value) (xs : List Int) (w : World) (_wn : (Lit.int .i64 n).wf = true) (h : Sits w v xs) (hl : xs.length ≤ 1048576) (_hwf : ∀ x ∈ xs, (Lit.int .i64 x).wf = true) (_ht : TZ w) :
    Calls Tryd.prog 20 #[.int .i64 n, v] w fun e w' => e = .returned (.tuple #[.bool (irB n xs), .bool (wordsB n xs)]) ∧ Below w.heap.size w w' := by
  have HS := hid h
  clear h
  by_cases h1 : wordsB n xs = true
  · have HV : Hid (irB n xs = roundB n xs ∧ wordsB n xs = true) := by show _ ∧ _; rw [irB, h1]; exact ⟨rfl, rfl⟩
    have HSM := hid (wordsB_small h1)
    have HN := hid (wordsB_iff.1 h1).1
    go_enter Tryd.func20, Tryd.ntmps20
    go_wp2_with (first | (go_at_call 28; refine (gcWords_any _ _ xs _ HS.out).mono ?_; rintro e w' ⟨rfl, rfl⟩; rw [h1]) | (go_at_call 36; refine (gcRound_any _ _ xs _ HS.out HSM.out hl HN.out).mono ?_; rintro e w1 ⟨rfl, hb1⟩; have HB1 := hid hb1; clear hb1) | fail)
    go_ret2
    exact ⟨ret_bb HV.out.1.symm (by first | rfl | exact HV.out.2.symm), HB1.out⟩
  · have h1 : wordsB n xs = false := by simpa using h1
    have HV : Hid (irB n xs = false ∧ wordsB n xs = false) := by show _ ∧ _; rw [irB, h1]; exact ⟨rfl, rfl⟩
    go_enter Tryd.func20, Tryd.ntmps20
    go_wp2_with (first | (go_at_call 28; refine (gcWords_any _ _ xs _ HS.out).mono ?_; rintro e w' ⟨rfl, rfl⟩; rw [h1]) | fail)
    go_ret2
    exact ⟨ret_bb HV.out.1.symm (by first | rfl | exact HV.out.2.symm), Below.refl _ _⟩
theorem irB_long {n : Int} {xs : List Int} (h : ¬ xs.length ≤ 1100) : irB n xs = false ∧ wordsB n xs = false := by
  have : wordsB n xs = false := by
    cases e : wordsB n xs with
    | false => rfl
    | true => exact absurd (wordsB_iff.1 e).2.1 h
  rw [irB, this]; exact ⟨rfl, rfl⟩
theorem impl_IsRoundCode_any (n : Int) (v : Value) (xs : List Int) (w : World) (_wn : (Lit.int .i64 n).wf = true) (h : Sits w v xs) (hl : xs.length ≤ 1048576) (_hwf : ∀ x ∈ xs, (Lit.int .i64 x).wf = true) (ht : TZ w) :
    Calls Tryd.prog 21 #[.int .i64 n, v] w fun e w' => e = .returned (.tuple #[.bool (irB n xs), .bool (wordsB n xs)]) ∧ Below w.heap.size w w' := by
  have HS := hid h
  have HT := hid ht
  have HW := hid _hwf
  have _wn' := _wn
  clear h ht _hwf
  have HV : Hid (irB n xs = irB n xs ∧ wordsB n xs = wordsB n xs) := hid ⟨rfl, rfl⟩
  go_enter Tryd.func21, Tryd.ntmps21
  go_wp2_with (first
    | (go_at_call 37; refine (changesAround_any _ _ xs _ _wn' HS.out hl HW.out HT.out).mono ?_; rintro e w1 ⟨u, rfl, ho, hb1⟩; have HB1 := hid hb1; clear ho hb1)
    | (go_at_call 30; refine (areBitWords_any _ _ xs _ (HS.out.below HB1.out)).mono ?_; rintro e w' ⟨rfl, rfl⟩)
    | fail)
  go_ret2
  exact ⟨rfl, HB1.out⟩
end Go.Proofs.YteejdagnlepegaaDoor
