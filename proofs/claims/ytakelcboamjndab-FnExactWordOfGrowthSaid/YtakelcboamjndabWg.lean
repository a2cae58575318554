/- Contracts: spWord, both WordOfGrowth. Conditions: slices that are not nil and read as lists of at most 2^20 numbers. -/
import Derived.Test.YtakelcboamjndabBk
import Derived.Test.YtakelcboamjndabCr
namespace Go.Proofs.Ytakelcboamjndab
open Go.RowKit Go.Maps
set_option linter.unusedVariables false
set_option maxRecDepth 4000

theorem bkL_pre (a : List Int) (y : Int) {k : Nat} : ∀ m, k ≤ m → bkL a y k <+: bkL a y m
  | 0, h => by rw [show k = 0 by omega]; exact List.prefix_refl _
  | m + 1, h => by
    by_cases e : k = m + 1
    · rw [e]; exact List.prefix_refl _
    · refine (bkL_pre a y m (by omega)).trans ?_
      rw [bkL]; split
      · exact List.prefix_append _ _
      · exact List.prefix_refl _
theorem bkL_lt (a : List Int) (y : Int) : ∀ k, ∀ x ∈ bkL a y k, 0 ≤ x ∧ x < (k : Int)
  | 0, x, h => by simp [bkL] at h
  | k + 1, x, h => by
    rw [bkL] at h
    split at h
    · rcases List.mem_append.1 h with h | h
      · have := bkL_lt a y k x h; omega
      · have : x = (k : Int) := by simpa using h
        omega
    · have := bkL_lt a y k x h; omega
theorem pre_first {l m : List Int} (h : l <+: m) (hl : l ≠ []) : m.getD 0 0 = l.getD 0 0 := by
  obtain ⟨t, rfl⟩ := h
  cases l with
  | nil => exact absurd rfl hl
  | cons a r => rfl
theorem bkL_none {a : List Int} {y : Int} {k : Nat} (hk : k ≤ a.length) : bkL a y k = [] ↔ y ∉ a.take k := by
  rw [← List.length_eq_zero_iff, bkL_len a y k hk, List.count_eq_zero]
theorem bk_first {a : List Int} {y : Int} {k : Nat} (hk : k < a.length) (hy : a.getD k 0 = y) (hn : y ∉ a.take k) : (bkL a y a.length).getD 0 0 = (k : Int) := by
  have h1 : bkL a y (k + 1) = [(k : Int)] := by rw [bkL, if_pos hy, (bkL_none (by omega)).2 hn]; rfl
  rw [pre_first (bkL_pre a y (k := k + 1) a.length (by omega)) (by rw [h1]; simp), h1]; rfl
theorem bk_later {a : List Int} {y : Int} {k : Nat} (hk : k < a.length) (hn : y ∈ a.take k) : (bkL a y a.length).getD 0 0 ≠ (k : Int) := by
  have h1 : bkL a y k ≠ [] := fun e => (bkL_none (by omega)).1 e hn
  rw [pre_first (bkL_pre a y (k := k) a.length (by omega)) h1]
  cases h : bkL a y k with
  | nil => exact absurd h h1
  | cons x r =>
    have := bkL_lt a y k x (by rw [h]; simp)
    show x ≠ (k : Int)
    omega
theorem Own.not_row {w : World} {B g n : Nat} {v : Value} {xs : List Int} {U : Nat → Value} (h : Own w B v xs) (hr : w.rowIs g 22 n U) : v.ownBlock ≠ some g := by
  intro e
  rcases h.2 with ⟨rfl, _⟩ | ⟨q, cap, cur, rfl, _, hgg, _⟩
  · simp [Value.ownBlock] at e
  · have e2 : q = g := Option.some.inj e
    subst e2
    obtain ⟨c, hc, _⟩ := hr
    rw [hgg] at hc
    simp at hc
theorem Bk.pushed {w w' : World} {g n B : Nat} {U : Nat → Value} {M : Nat → List Int} {u v' : Value} {G G0 : List Int} {x : Int} {A : Nat} (h : Bk w g n U M) (hu : Own w A u G0) (hp : Pushed w w' B u v' G x) (hd : ∀ i, i < n → Dj (U i) u) :
    Bk w' g n U M ∧ ∀ i, i < n → Dj (U i) v' :=
  ⟨⟨h.row.of_block (hp.block g h.row.lt (hu.not_row h.row)), fun y hy => (hp.keep _ _ _ (h.own y hy) (hd y hy)).1, h.apart⟩, fun i hi => (hp.keep _ _ _ (h.own i hi) (hd i hi)).2⟩
set_option maxHeartbeats 2000000 in
theorem spWord_any (v : Value) (a : List Int) (w : World) (h : Reads w v a) (hg : grB a = true) :
    Calls Try.prog 56 #[v] w fun e w' => ∃ u, e = .returned u ∧ Own w' w.heap.size u (woT [] a) ∧ Below w.heap.size w w' := by
  obtain ⟨hgr, hg1, hg12⟩ := grB_iff.1 hg
  have HR := hid h
  have HG := hid hg
  obtain ⟨T, hT⟩ : ∃ T, T = woT [] a := ⟨_, rfl⟩
  have HT := hid hT.symm
  have HTL := hid (show T.length = 2 * a.length by rw [hT, wo_len0])
  rw [← hT]
  obtain ⟨n, hn⟩ : ∃ n : Nat, (n : Int) = topL a + 1 := ⟨(topL a + 1).toNat, by have := topL_low a; omega⟩
  have hel : ∀ i, i < a.length → ∃ y : Nat, a.getD i 0 = (y : Int) ∧ y < n := fun i hi => by
    have h1 := (hgr i hi).1
    have h2 := topL_mem (p := a) (x := a.getD i 0) (by rw [getD_at hi]; exact List.getElem_mem _)
    exact ⟨(a.getD i 0).toNat, by omega, by omega⟩
  have HEL := hid hel
  have HN := hid hn
  obtain ⟨i0, hi, hz0, hz1, hz2⟩ := info_parts Try.info3
  obtain ⟨ao, c, rfl, hc1, hm, h⟩ := h.view
  rcases h with h | ⟨b, off, rfl, hb, hc⟩
  · rw [h] at hg1; simp at hg1
  have HC := hid hc
  clear hc hT hn hg hgr hel
  go_enter Try.func56, Try.ntmps56
  go_wp2_with (first
    | (go_at_call 84; (refine (spBlocks_any _ a n _ HR.out HG.out HN.out).mono ?_); (rintro e w1 ⟨U, rfl, hbk1, hb1⟩); (have HBK1 := hid hbk1); (have HB1 := hid hb1); (clear hbk1 hb1))
    | fail)
  obtain ⟨g, hg⟩ : ∃ g, g = w.heap.size := ⟨_, rfl⟩
  rw [← hg]
  rw [← hg] at HBK1
  clear hg
  go_loopw [3, 11] (fun vw i wr => ∃ (k q cw : Nat) (aW : Option Addr) (W : List Int), k ≤ a.length ∧ i = .int .i64 k ∧ vw = .slice aW q cw ∧ W.length = q ∧ Own wr w.heap.size (.slice aW q cw) W ∧ Bk wr g n U (fun y => bkL a (y : Int) a.length) ∧ (∀ i, i < n → Dj (U i) (.slice aW q cw)) ∧ W ++ woT (a.take k) (a.drop k) = T ∧ Below w.heap.size w wr) (fun _ i _ => a.length - (intOf i).toNat)
  case atStart => exact ⟨0, 0, 0, none, [], Nat.zero_le _, rfl, rfl, rfl, Own.nil _ _, HBK1.out, fun i _ => (Dj.nil _).symm, HT.out, HB1.out⟩
  case round =>
    obtain ⟨k, q, cw, aW, W, hk, rfl, rfl, hwl, how, hbk, hdj, hwo, hbel⟩ := hrel
    obtain ⟨wo, rfl⟩ : ∃ wo : World, wo = wr := ⟨_, rfl⟩
    have HW := hid how
    have HBK := hid hbk
    have HDJ := hid hdj
    have HB := hid hbel
    by_cases hlt : k < a.length
    · obtain ⟨y, hy, hyn⟩ := HEL.out k hlt
      have hcx := (hbel.cell (p := ⟨b, off + k, none⟩) (by exact hb)).trans (HC.out k hlt)
      rw [← getD_at hlt, hy] at hcx
      have hd : a.drop k = (y : Int) :: a.drop (k + 1) := by rw [List.drop_eq_getElem_cons hlt, ← getD_at hlt, hy]
      have htk : a.take (k + 1) = a.take k ++ [(y : Int)] := by rw [List.take_succ_eq_append_getElem hlt, ← getD_at hlt, hy]
      have hap : a = a.take k ++ (y : Int) :: a.drop (k + 1) := by rw [← hd, List.take_append_drop]
      rw [hd, wo_step hap, ← htk] at hwo
      obtain ⟨X, hX⟩ : ∃ X, X = bkL a (y : Int) a.length := ⟨_, rfl⟩
      obtain ⟨cy, hcyl⟩ : ∃ cy, cy = X.length := ⟨_, rfl⟩
      have hcount : cy = a.count (y : Int) := by rw [hcyl, hX, bkL_len a _ _ (Nat.le_refl _), List.take_length]
      have hcpos : 0 < cy := by
        rw [hcount]; exact List.count_pos_iff.2 (by rw [hap]; simp)
      have hcy12 : cy ≤ 12 := by rw [hcount]; exact Nat.le_trans List.count_le_length hg12
      have hoy := hbk.own y hyn
      have hcy : wo.cell? ⟨g, y, none⟩ = some (U y) := hbk.row.cell hyn
      simp only [← hX] at hoy
      rcases hoy.form with ⟨_, e⟩ | ⟨gy, capy, hv, _, hgl, _, _, hxc, _⟩
      · rw [hcyl, e] at hcpos; simp at hcpos
      rw [hv] at hcy
      have hx0 := hxc 0 (by omega)
      rw [Nat.zero_add] at hx0
      rw [← hcyl] at hcy
      have htl := HTL.out
      have hq24 : q + 1 ≤ 24 := by rw [← hwo] at htl; simp [hwl] at htl; omega
      have q1 : (0 : Int) ≤ (k : Int) := by omega
      have q2 : (k : Int) < (a.length : Int) := by omega
      have q3 : (0 : Int) ≤ (y : Int) := by omega
      have q4 : (y : Int) < (n : Int) := by omega
      have q5 : (0 : Int) < (cy : Int) := by omega
      have HWL := hid hwl
      by_cases hmem : (y : Int) ∈ a.take k
      · rw [if_pos hmem, List.replicate_zero, List.nil_append] at hwo
        have hne := bk_later hlt hmem
        rw [← hX] at hne
        obtain ⟨f, hf⟩ : ∃ f, f = X.getD 0 0 := ⟨_, rfl⟩
        rw [← hf] at hne hx0
        have hbb : (f == (k : Int)) = false := beq_eq_false_iff_ne.2 hne
        have HWO := hid (show (W ++ [0]) ++ woT (a.take (k + 1)) (a.drop (k + 1)) = T by rw [← hwo]; simp)
        have HWL2 := hid (show (W ++ [0]).length = q + 1 by simp [hwl])
        clear how hbk hdj hwo hbel hy hd htk hap hX hcyl hcount hcpos hoy hv hgl hxc hne hf hmem htl hwl
        go_wp2_with (first
          | (at_builtin; (refine wpList_push _ rfl _ _ 22 rfl w.heap.size i0 Try.underlying22 hi hz0 hz1 hz2 aW q cw W rfl HW.out 0 wo.heap.size rfl rfl (by omega) HB.out.size ?_); (intro g2 c2 w2 hp2); (have HP2 := hid hp2); (clear hp2))
          | fail)
        have HBP := hid (HBK.out.pushed HW.out HP2.out HDJ.out)
        go_roundw
        case rel => exact ⟨k + 1, q + 1, c2, some ⟨g2, 0, none⟩, W ++ [0], by omega, by go_num, rfl, HWL2.out, HP2.out.own, HBP.out.1, HBP.out.2, HWO.out, HP2.out.below w rfl HB.out⟩
        case measure => simp [intOf]; omega
      · rw [if_neg hmem, ← hcount] at hwo
        have hfst := bk_first hlt hy hmem
        rw [← hX] at hfst
        rw [hfst] at hx0
        have hbb : ((k : Int) == (k : Int)) = true := by simp
        have HWO := hid hwo
        clear how hbk hdj hwo hbel hy hd htk hap hX hcyl hcount hcpos hoy hv hgl hxc hfst hmem htl
        go_wp2_with fail
        go_loopw [3, 29] (fun vw i wr => ∃ (j q cw : Nat) (aW : Option Addr) (W : List Int), j ≤ cy ∧ i = .int .i64 j ∧ vw = .slice aW q cw ∧ W.length = q ∧ Own wr w.heap.size (.slice aW q cw) W ∧ Bk wr g n U (fun y => bkL a (y : Int) a.length) ∧ (∀ i, i < n → Dj (U i) (.slice aW q cw)) ∧ W ++ (List.replicate (cy - j) 1 ++ (0 :: woT (a.take (k + 1)) (a.drop (k + 1)))) = T ∧ Below w.heap.size w wr) (fun _ i _ => cy - (intOf i).toNat)
        case atStart => exact ⟨0, q, cw, aW, W, Nat.zero_le _, rfl, rfl, hwl, HW.out, HBK.out, HDJ.out, HWO.out, HB.out⟩
        case round =>
          obtain ⟨j, q', cw', aW', W', hj, rfl, rfl, hwl', how, hbk, hdj, hwo, hbel⟩ := hrel
          have HW2 := hid how
          have HBK2 := hid hbk
          have HDJ2 := hid hdj
          have HB2 := hid hbel
          have htl := HTL.out
          have hq24' : q' + 1 ≤ 24 := by rw [← hwo] at htl; simp [hwl'] at htl; omega
          by_cases hjl : j < cy
          · have HWO2 := hid (show (W' ++ [1]) ++ (List.replicate (cy - (j + 1)) 1 ++ (0 :: woT (a.take (k + 1)) (a.drop (k + 1)))) = T by
              rw [← hwo, show cy - j = (cy - (j + 1)) + 1 by omega, List.replicate_succ]; simp)
            have HWL2 := hid (show (W' ++ [(1 : Int)]).length = q' + 1 by simp [hwl'])
            clear how hbk hdj hwo hbel htl hwl'
            go_wp2_with (first
              | (at_builtin; (refine wpList_push _ rfl _ _ 22 rfl w.heap.size i0 Try.underlying22 hi hz0 hz1 hz2 aW' q' cw' W' rfl HW2.out 1 wr.heap.size rfl rfl (by omega) HB2.out.size ?_); (intro g2 c2 w2 hp2); (have HP2 := hid hp2); (clear hp2))
              | fail)
            have HBP := hid (HBK2.out.pushed HW2.out HP2.out HDJ2.out)
            go_roundw
            case rel => exact ⟨j + 1, q' + 1, c2, some ⟨g2, 0, none⟩, W' ++ [1], by omega, by go_num, rfl, HWL2.out, HP2.out.own, HBP.out.1, HBP.out.2, HWO2.out, HP2.out.below w rfl HB2.out⟩
            case measure => simp [intOf]; omega
          · obtain rfl : j = cy := by omega
            rw [Nat.sub_self, List.replicate_zero, List.nil_append] at hwo
            have HWO2 := hid (show (W' ++ [0]) ++ woT (a.take (k + 1)) (a.drop (k + 1)) = T by rw [← hwo]; simp)
            have HWL2 := hid (show (W' ++ [(0 : Int)]).length = q' + 1 by simp [hwl'])
            clear how hbk hdj hwo hbel htl hwl'
            go_wp2_with (first
              | (at_builtin; (refine wpList_push _ rfl _ _ 22 rfl w.heap.size i0 Try.underlying22 hi hz0 hz1 hz2 aW' q' cw' W' rfl HW2.out 0 wr.heap.size rfl rfl (by omega) HB2.out.size ?_); (intro g2 c2 w2 hp2); (have HP2 := hid hp2); (clear hp2))
              | fail)
            have HBP := hid (HBK2.out.pushed HW2.out HP2.out HDJ2.out)
            go_roundw
            case rel => exact ⟨k + 1, q' + 1, c2, some ⟨g2, 0, none⟩, W' ++ [0], by omega, by go_num, rfl, HWL2.out, HP2.out.own, HBP.out.1, HBP.out.2, HWO2.out, HP2.out.below w rfl HB2.out⟩
            case measure => simp [intOf]; omega
    · obtain rfl : k = a.length := by omega
      have HE := hid (show W = T by rw [← hwo, List.drop_length, woT, List.append_nil])
      clear how hbk hdj hwo hbel hwl
      go_wp2_with fail
      go_ret
      exact ⟨_, rfl, by rw [← HE.out]; exact HW.out, HB.out⟩
def wgB (a : List Int) : Bool := grB a && !(hcP a)
def wgRes (a : List Int) : List Int := if wgB a = true then woT [] a else []
theorem bound_WordOfGrowth (a : List Int) : (wgRes a).length ≤ 1048576 := by
  unfold wgRes
  split
  · rename_i h
    unfold wgB at h
    rw [Bool.and_eq_true] at h
    have := (grB_iff.1 h.1).2.2
    rw [wo_len0]; omega
  · simp
theorem spec_WordOfGrowth_any (v : Value) (xs : List Int) (w : World) (h : Sits w v xs) (hl : xs.length ≤ 1048576) (_hwf : ∀ x ∈ xs, (Lit.int .i64 x).wf = true) :
    Calls Try.prog 25 #[v] w fun e w' => ∃ u, e = .returned (.tuple #[u, .bool (wgB xs)]) ∧ Own w' w.heap.size u (wgRes xs) ∧ Below w.heap.size w w' := by
  have HX := hid h
  clear h
  cases hg : grB xs
  · have HG := hid (show wgB xs = false by unfold wgB; rw [hg]; rfl)
    have HF := hid (show wgRes xs = [] by unfold wgRes; rw [HG.out]; simp)
    go_enter Try.func25, Try.ntmps25
    go_wp2_with (first | (go_at_call 52; (refine (spGrowth_any _ xs _ HX.out.reads hl).mono ?_); (rintro e w1 ⟨rfl, rfl⟩); rw [hg]; have HB1 := hid (Below.refl w.heap.size w)) | fail)
    go_ret2
    exact ⟨_, by rw [HG.out]; rfl, by rw [HF.out]; exact Own.nil _ _, HB1.out⟩
  · have HGR := hid hg
    cases hh : hcP xs
    · have HG := hid (show wgB xs = true by unfold wgB; rw [hg, hh]; rfl)
      have HF := hid (show wgRes xs = woT [] xs by unfold wgRes; rw [if_pos HG.out])
      go_enter Try.func25, Try.ntmps25
      go_wp2_with (first
        | (go_at_call 56; (refine (spWord_any _ xs _ (HX.out.reads.below HB2.out) HGR.out).mono ?_); (rintro e w3 ⟨u, rfl, ho, hb3⟩); (have HO := hid (ho.mono HB2.out.size)); (have HB3 := hid (Below_chain HB2.out hb3)); clear ho hb3)
        | (go_at_call 53; (refine (spCrosses_any _ xs _ (HX.out.below HB1.out) HGR.out).mono ?_); (rintro e w2 ⟨rfl, hb2⟩); rw [hh]; (have HB2 := hid (Below_chain HB1.out hb2)); clear hb2)
        | (go_at_call 52; (refine (spGrowth_any _ xs _ HX.out.reads hl).mono ?_); (rintro e w1 ⟨rfl, rfl⟩); rw [hg]; have HB1 := hid (Below.refl w.heap.size w))
        | fail)
      go_ret2
      exact ⟨_, by rw [HG.out]; rfl, by rw [HF.out]; exact HO.out, HB3.out⟩
    · have HG := hid (show wgB xs = false by unfold wgB; rw [hg, hh]; rfl)
      have HF := hid (show wgRes xs = [] by unfold wgRes; rw [HG.out]; simp)
      go_enter Try.func25, Try.ntmps25
      go_wp2_with (first
        | (go_at_call 53; (refine (spCrosses_any _ xs _ (HX.out.below HB1.out) HGR.out).mono ?_); (rintro e w2 ⟨rfl, hb2⟩); rw [hh]; (have HB2 := hid (Below_chain HB1.out hb2)); clear hb2)
        | (go_at_call 52; (refine (spGrowth_any _ xs _ HX.out.reads hl).mono ?_); (rintro e w1 ⟨rfl, rfl⟩); rw [hg]; have HB1 := hid (Below.refl w.heap.size w))
        | fail)
      go_ret2
      exact ⟨_, by rw [HG.out]; rfl, by rw [HF.out]; exact Own.nil _ _, HB2.out⟩
theorem impl_WordOfGrowth_any (v : Value) (xs : List Int) (w : World) (h : Sits w v xs) (hl : xs.length ≤ 1048576) (_hwf : ∀ x ∈ xs, (Lit.int .i64 x).wf = true) :
    Calls Try.prog 26 #[v] w fun e w' => ∃ u, e = .returned (.tuple #[u, .bool (wgB xs)]) ∧ Own w' w.heap.size u (wgRes xs) ∧ Below w.heap.size w w' := by
  have HX := hid h
  clear h
  cases hg : grB xs
  · have HG := hid (show wgB xs = false by unfold wgB; rw [hg]; rfl)
    have HF := hid (show wgRes xs = [] by unfold wgRes; rw [HG.out]; simp)
    go_enter Try.func26, Try.ntmps26
    go_wp2_with (first | (go_at_call 54; (refine (impl_IsGrowth_any _ xs _ HX.out.reads hl).mono ?_); (rintro e w1 ⟨rfl, hb⟩); rw [hg]; (have HB1 := hid hb); clear hb) | fail)
    go_ret2
    exact ⟨_, by rw [HG.out]; rfl, by rw [HF.out]; exact Own.nil _ _, HB1.out⟩
  · have HGR := hid hg
    cases hh : hcP xs
    · have HG := hid (show wgB xs = true by unfold wgB; rw [hg, hh]; rfl)
      have HF := hid (show wgRes xs = woT [] xs by unfold wgRes; rw [if_pos HG.out])
      go_enter Try.func26, Try.ntmps26
      go_wp2_with (first
        | (go_at_call 57; (refine (wordOfGrowth_any _ xs _ (HX.out.reads.below HB2.out) HGR.out).mono ?_); (rintro e w3 ⟨u, rfl, ho, hb3⟩); (have HO := hid (ho.mono HB2.out.size)); (have HB3 := hid (Below_chain HB2.out hb3)); clear ho hb3)
        | (go_at_call 55; (refine (hasCrossing_any _ xs _ (HX.out.reads.below HB1.out) HGR.out).mono ?_); (rintro e w2 ⟨rfl, hb2⟩); rw [hh]; (have HB2 := hid (Below_chain HB1.out hb2)); clear hb2)
        | (go_at_call 54; (refine (impl_IsGrowth_any _ xs _ HX.out.reads hl).mono ?_); (rintro e w1 ⟨rfl, hb⟩); rw [hg]; (have HB1 := hid hb); clear hb)
        | fail)
      go_ret2
      exact ⟨_, by rw [HG.out]; rfl, by rw [HF.out]; exact HO.out, HB3.out⟩
    · have HG := hid (show wgB xs = false by unfold wgB; rw [hg, hh]; rfl)
      have HF := hid (show wgRes xs = [] by unfold wgRes; rw [HG.out]; simp)
      go_enter Try.func26, Try.ntmps26
      go_wp2_with (first
        | (go_at_call 55; (refine (hasCrossing_any _ xs _ (HX.out.reads.below HB1.out) HGR.out).mono ?_); (rintro e w2 ⟨rfl, hb2⟩); rw [hh]; (have HB2 := hid (Below_chain HB1.out hb2)); clear hb2)
        | (go_at_call 54; (refine (impl_IsGrowth_any _ xs _ HX.out.reads hl).mono ?_); (rintro e w1 ⟨rfl, hb⟩); rw [hg]; (have HB1 := hid hb); clear hb)
        | fail)
      go_ret2
      exact ⟨_, by rw [HG.out]; rfl, by rw [HF.out]; exact Own.nil _ _, HB2.out⟩
end Go.Proofs.Ytakelcboamjndab
