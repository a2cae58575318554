/- Contracts: suOrder; both OrderOf functions. Conditions: slices that are not nil and read as lists. -/
import Derived.Test.YteimfdpkodcfbaaOrM
import Derived.Test.YteimfdpkodcfbaaPush0
import Derived.Test.YteimfdpkodcfbaaBs2
namespace Go.Proofs.Yteimfdpkodcfbaa
open Go.RowKit
set_option linter.unusedVariables false
set_option maxRecDepth 4000

def ordB (xs : List Int) : Bool := decide (xs.length ≤ 12) && distB xs
def ordR (xs : List Int) : List Int := if ordB xs = true then lesL xs else []
theorem ordB_far {xs : List Int} (h : ¬ xs.length ≤ 12) : ordB xs = false := by unfold ordB; simp [h]
theorem ordB_near {xs : List Int} (h : xs.length ≤ 12) : ordB xs = distB xs := by unfold ordB; simp [h]
theorem ordR_yes {xs : List Int} (h : ordB xs = true) : ordR xs = lesL xs := by unfold ordR; rw [if_pos h]
theorem ordR_no {xs : List Int} (h : ordB xs = false) : ordR xs = [] := by unfold ordR; rw [if_neg (by rw [h]; simp)]
theorem bound_OrderOf (xs : List Int) : (ordR xs).length ≤ 1048576 := by
  cases h : ordB xs with
  | false => rw [ordR_no h]; simp
  | true =>
    rw [ordR_yes h, lesL_length]
    rcases Nat.lt_or_ge 12 xs.length with q | q
    · rw [ordB_far (by omega)] at h; simp at h
    · omega
/-- the first numbers of the order -/
theorem less_take (xs : List Int) {k : Nat} (h : k < xs.length) : (lesL xs).take (k + 1) = (lesL xs).take k ++ [(countLt xs xs[k] : Int)] := by
  rw [List.take_succ_eq_append_getElem (by rw [lesL_length]; exact h)]
  simp [lesL]
theorem less_all (xs : List Int) : (lesL xs).take xs.length = lesL xs := by rw [← lesL_length xs, List.take_length]
/-- the order, or nothing -/
def sorR (xs : List Int) : List Int := if distB xs = true then lesL xs else []
theorem sorR_yes {xs : List Int} (h : distB xs = true) : sorR xs = lesL xs := by unfold sorR; rw [if_pos h]
theorem sorR_no {xs : List Int} (h : distB xs = false) : sorR xs = [] := by unfold sorR; rw [if_neg (by rw [h]; simp)]
theorem suOrder_any (v : Value) (xs : List Int) (w : World) (h : Sits w v xs) (hl : xs.length ≤ 1048576) :
    Calls Try.prog 141 #[v] w fun e w' => ∃ u, e = .returned (.tuple #[u, .bool (distB xs)]) ∧ Own w' w.heap.size u (sorR xs) ∧ Below w.heap.size w w' := by
  have HS := hid h
  obtain ⟨b, off, c, rfl, hc1, hm, hb, hc⟩ := h
  clear hc
  obtain ⟨i0, hi, hz0, hz1, hz2⟩ := info_parts Try.info3
  go_enter Try.func141, Try.ntmps141
  go_wp2_with fail
  go_loopw [4, 12] (fun vp i wr => ∃ k : Nat, i = .int .i64 (k : Int) ∧ k ≤ xs.length ∧ allTo k (freshAt xs) = true ∧ Own wr w.heap.size vp ((lesL xs).take k) ∧ Below w.heap.size w wr) (fun _ i _ => xs.length - (intOf i).toNat)
  case atStart => exact ⟨0, rfl, Nat.zero_le _, rfl, Own.nil _ _, Below.refl _ _⟩
  case round =>
    obtain ⟨k, rfl, hk, hall, hown, hbel⟩ := hrel
    have HO := hid hown
    have HB := hid hbel
    have HA := hid hall
    have HSR := hid (HS.out.below hbel)
    have hbb : b < wr.heap.size := Nat.lt_of_lt_of_le hb hbel.size
    obtain ⟨ao, cc, rfl, _, hcc⟩ := hown.shp9
    have HTL := hid (show ((lesL xs).take k).length = k by rw [List.length_take, lesL_length]; omega)
    rw [HTL.out] at HO ⊢
    by_cases hlt : k < xs.length
    · have hcells := HSR.out
      obtain ⟨b', off', c', e, h1, h2, h3, hcr⟩ := hcells
      simp only [Value.slice.injEq, Option.some.injEq, Addr.mk.injEq, and_true] at e
      obtain ⟨⟨rfl, rfl⟩, -, rfl⟩ := e
      have HCR := hid hcr
      have hcx := hcr k hlt
      have HT := hid (Sits_take (w := wr) (off := off) k (by omega) hc1 hm hbb hcr)
      obtain ⟨x, hx⟩ : ∃ x, x = xs[k] := ⟨_, rfl⟩
      have HX := hid hx
      rw [← hx] at hcx
      clear hown hbel hall hcr hx
      cases hh : hasB (xs.take k) x with
      | true =>
        have HF := hid (show distB xs = false by
          refine allTo_no hlt ?_
          unfold freshAt
          rw [getD_at hlt, ← HX.out, hh]; rfl)
        go_wp2_with (first
          | (go_at_call 123; (refine (l1Has_any _ (xs.take k) _ _ HT.out.reads).mono ?_); (rintro e w2 ⟨rfl, rfl⟩); (rw [hh]))
          | fail)
        go_ret2
        exact ⟨_, ret_sb HF.out.symm, by rw [sorR_no HF.out]; exact Own.nil _ _, HB.out⟩
      | false =>
        have HN := hid (show freshAt xs k = true by
          unfold freshAt
          rw [getD_at hlt, ← HX.out, hh]; rfl)
        have HLT := hid (less_take xs hlt)
        go_wp2_with (first
          | (go_at_call 123; (refine (l1Has_any _ (xs.take k) _ _ HT.out.reads).mono ?_); (rintro e w2 ⟨rfl, rfl⟩); (rw [hh]))
          | fail)
        go_loop [7, 24] (fun s i => ∃ j : Nat, i = .int .i64 (j : Int) ∧ j ≤ xs.length ∧ s = .int .i64 (countLt (xs.take j) x : Nat)) (fun _ i => xs.length - (intOf i).toNat)
        case atStart => exact ⟨0, rfl, Nat.zero_le _, rfl⟩
        case round =>
          obtain ⟨j, rfl, hj, rfl⟩ := hrel
          by_cases hlj : j < xs.length
          · have hcj := HCR.out j hlj
            have hcl : countLt (xs.take j) x ≤ j := Nat.le_trans (countLt_le _ _) (List.length_take_le _ _)
            by_cases hy : xs[j] < x
            · have HY := hid (countLt_yes hlj hy)
              go_wp2_with fail
              go_round
              case rel => exact ⟨j + 1, by go_num, hlj, by rw [HY.out]; go_num⟩
              case measure => simp [intOf]; omega
            · have HY := hid (countLt_no hlj hy)
              go_wp2_with fail
              go_round
              case rel => exact ⟨j + 1, by go_num, hlj, by rw [HY.out]⟩
              case measure => simp [intOf]; omega
          · have HJ := hid (show xs.take j = xs by rw [show j = xs.length by omega, List.take_length])
            have hk6 : k ≤ 1048576 := by omega
            rw [HJ.out]
            obtain ⟨C, hC⟩ : ∃ C, C = countLt xs x := ⟨_, rfl⟩
            have HC := hid hC
            have hcl : C ≤ xs.length := by rw [hC]; exact countLt_le _ _
            rw [← hC]
            clear hC
            go_wp2_with (first
              | (at_builtin; (refine wpList_push _ rfl _ _ 22 rfl w.heap.size i0 Try.underlying22 hi hz0 hz1 hz2 ao k cc ((lesL xs).take k) rfl HO.out (C : Int) wr.heap.size rfl rfl hk6 HB.out.size ?_); (intro g5 c5 w5 hp5); (have HO5 := hid (show Own w5 w.heap.size (.slice (some ⟨g5, 0, none⟩) (k + 1) c5) ((lesL xs).take (k + 1)) by rw [HLT.out, ← HX.out, ← HC.out]; exact hp5.own)); (have HB5 := hid (hp5.below w rfl HB.out)); (clear hp5))
              | fail)
            go_roundw
            case rel => exact ⟨k + 1, by go_num, hlt, allTo_next HA.out HN.out, HO5.out, HB5.out⟩
            case measure => simp [intOf]; omega
    · obtain rfl : k = xs.length := by omega
      have HD := hid (show distB xs = true from hall)
      clear hown hbel hall
      go_wp2_with fail
      go_ret2
      exact ⟨_, ret_sb HD.out.symm, by rw [sorR_yes HD.out, ← less_all xs]; exact HO.out, HB.out⟩
theorem isLess9_any (a b : Int) (w : World) : Calls Try.prog 167 #[.int .i64 a, .int .i64 b] w fun e w' => e = .returned (.bool (decide (a < b))) ∧ w = w' := by
  by_cases h : a < b
  all_goals
    go_enter Try.func167, Try.ntmps167
    go_wp2
    go_ret
    exact ⟨by simp; omega, rfl⟩
theorem countRelated9_lt (v : Value) (xs : List Int) (x : Int) (w : World) (h : Sits w v xs) :
    Calls Try.prog 166 #[v, .int .i64 x, .func (.func 167) #[] #[]] w fun e w' => e = .returned (.int .i64 (countLt xs x)) ∧ w = w' := by
  obtain ⟨b, off, c, rfl, hc1, hm, hb, hc⟩ := h
  go_enter Try.func166, Try.ntmps166
  go_wp2
  go_loop [7, 9, 12] (fun n _ i => ∃ k : Nat, k ≤ xs.length ∧ i = .int .i64 k ∧ n = .int .i64 (countLt (xs.take k) x)) (fun _ _ i => xs.length - (intOf i).toNat)
  case atStart => exact ⟨0, Nat.zero_le _, rfl, rfl⟩
  case round =>
    obtain ⟨k, hk, rfl, rfl⟩ := hrel
    by_cases hlt : k < xs.length
    · have hcx := hc k hlt
      clear hc
      have hcl : countLt (xs.take k) x ≤ k := Nat.le_trans (countLt_le _ _) (List.length_take_le _ _)
      by_cases hx : xs[k] < x
      · have hb1 : decide (xs[k] < x) = true := by simpa using hx
        have HC := hid (countLt_yes hlt hx)
        clear hx
        go_wp2_with (go_at_call 167; refine (isLess9_any _ _ _).mono ?_; rintro e w' ⟨rfl, rfl⟩)
        go_round
        case rel => exact ⟨k + 1, by omega, by go_num, by rw [HC.out]; go_num⟩
        case measure => simp [intOf]; omega
      · have hb1 : decide (xs[k] < x) = false := by simpa using hx
        have HC := hid (countLt_no hlt hx)
        clear hx
        go_wp2_with (go_at_call 167; refine (isLess9_any _ _ _).mono ?_; rintro e w' ⟨rfl, rfl⟩)
        go_round
        case rel => exact ⟨k + 1, by omega, by go_num, by rw [HC.out]⟩
        case measure => simp [intOf]; omega
    · obtain rfl : k = xs.length := by omega
      go_wp2
      go_ret
      exact ⟨rfl, rfl⟩
theorem impl_OrderOf_any (v : Value) (xs : List Int) (w : World) (h : Sits w v xs) (hl : xs.length ≤ 1048576) (_hwf : ∀ n ∈ xs, (Lit.int .i64 n).wf = true) :
    Calls Try.prog 144 #[v] w fun e w' => ∃ u, e = .returned (.tuple #[u, .bool (ordB xs)]) ∧ Own w' w.heap.size u (ordR xs) ∧ Below w.heap.size w w' := by
  have HS := hid h
  obtain ⟨b, off, c, rfl, hc1, hm, hb, hc⟩ := h
  clear hc
  by_cases h12 : xs.length ≤ 12
  · have HI := hid (show inB (xs.length : Int) 0 12 = true by rw [inB_iff]; omega)
    have hmk := run_make_ints xs.length hl w
    have HM := hid (World.rowIs_made w (.int .i64 0) xs.length 3)
    have HB0 := hid ((Below.refl w.heap.size w).alloc (Nat.le_refl _) (.cells (madeCells #[.int .i64 0] xs.length) 3))
    have HE := hid (ordB_near h12)
    have HPL := hid (permB_less xs h12)
    go_enter Try.func144, Try.ntmps144
    go_wp2_with (first | (go_at_call 165; (refine (isItemCount_any _ _).mono ?_); (rintro e w' ⟨rfl, rfl⟩); (rw [HI.out])) | fail)
    clear hmk
    go_loopw [5, 6, 16] (fun _ _ i wr => ∃ k : Nat, i = .int .i64 (k : Int) ∧ k ≤ xs.length ∧ wr.rowIs w.heap.size 3 xs.length (fun j => .int .i64 (if j < k then (lesL xs).getD j 0 else 0)) ∧ Below w.heap.size w wr) (fun _ _ i _ => xs.length - (intOf i).toNat)
    case atStart => exact ⟨0, rfl, Nat.zero_le _, HM.out.congr (fun i hi => by simp), HB0.out⟩
    case round =>
      obtain ⟨k, rfl, hk, hrow, hbel⟩ := hrel
      by_cases hlt : k < xs.length
      · have HSR := hid (HS.out.below hbel)
        have hcells := HSR.out
        obtain ⟨b', off', c', e, h1, h2, h3, hcr⟩ := hcells
        simp only [Value.slice.injEq, Option.some.injEq, Addr.mk.injEq, and_true] at e
        obtain ⟨⟨rfl, rfl⟩, -, rfl⟩ := e
        have hcx := hcr k hlt
        obtain ⟨x, hx⟩ : ∃ x, x = xs[k] := ⟨_, rfl⟩
        have HG := hid (show (lesL xs).getD k 0 = (countLt xs x : Int) by rw [lesL_getD xs hlt, hx])
        rw [← hx] at hcx
        obtain ⟨C, hC⟩ : ∃ C, C = countLt xs x := ⟨_, rfl⟩
        have HC := hid hC
        rw [← hC] at HG
        have hf := hrow.frozen k
        have hcc := hrow.cell hlt
        have HS2 := hid (hrow.set k (.int .i64 (C : Int)))
        have HB2 := hid (hbel.setCell (p := ⟨w.heap.size, k, none⟩) (Nat.le_refl _) (.int .i64 (C : Int)))
        obtain ⟨z, hz⟩ : ∃ z, wr.cell? ⟨w.heap.size, k, none⟩ = some z := ⟨_, hcc⟩
        clear hrow hbel hcr hcc hx hC
        go_wp2_with (first | (go_at_call 166; ((refine (countRelated9_lt _ xs _ _ HSR.out).mono ?_); (rintro e w2 ⟨rfl, rfl⟩); (rw [← HC.out]))) | fail)
        go_roundw
        case rel => exact ⟨k + 1, by go_num, hlt, HS2.out.congr (fun i hi => by
          by_cases h1 : i = k
          · subst h1; rw [if_pos rfl, if_pos (by omega), HG.out]
          · rw [if_neg h1]
            by_cases h2 : i < k
            · rw [if_pos h2, if_pos (by omega)]
            · rw [if_neg h2, if_neg (by omega)]), HB2.out⟩
        case measure => simp [intOf]; omega
      · have HOW := hid (Own.of_rowIs (xs := lesL xs) (hrow.congr (fun i hi => by rw [if_pos (by omega)])) (lesL_length _) (by unfold maxLen; omega))
        have HB1 := hid hbel
        clear hrow hbel
        cases hd : distB xs with
        | true =>
          go_wp2_with (first | (go_at_call 168; (refine (impl_IsPermutation_any _ (lesL xs) _ HOW.out.reads).mono ?_); (rintro e w2 ⟨rfl, hb2⟩); (rw [HPL.out, hd]); (have HB2 := hid (Below_chain HB1.out hb2)); (have HO2 := hid (HOW.out.below (hb2.mono (Nat.le_refl _)))); (clear hb2)) | fail)
          go_ret2
          exact ⟨_, ret_sb (by rw [HE.out, hd]), by rw [ordR_yes (HE.out.trans hd)]; exact HO2.out, HB2.out⟩
        | false =>
          go_wp2_with (first | (go_at_call 168; (refine (impl_IsPermutation_any _ (lesL xs) _ HOW.out.reads).mono ?_); (rintro e w2 ⟨rfl, hb2⟩); (rw [HPL.out, hd]); (have HB2 := hid (Below_chain HB1.out hb2)); (clear hb2)) | fail)
          go_ret2
          exact ⟨_, ret_sb (by rw [HE.out, hd]), by rw [ordR_no (HE.out.trans hd)]; exact Own.nil _ _, HB2.out⟩
  · have HI := hid (show inB (xs.length : Int) 0 12 = false by
      cases e : inB (xs.length : Int) 0 12 with
      | false => rfl
      | true => rw [inB_iff] at e; omega)
    have HE := hid (ordB_far h12)
    have HR := hid (ordR_no HE.out)
    go_enter Try.func144, Try.ntmps144
    go_wp2_with (first | (go_at_call 165; (refine (isItemCount_any _ _).mono ?_); (rintro e w' ⟨rfl, rfl⟩); (rw [HI.out])) | fail)
    go_ret2
    exact ⟨_, ret_sb HE.out.symm, by rw [HR.out]; exact Own.nil _ _, Below.refl _ _⟩
end Go.Proofs.Yteimfdpkodcfbaa
