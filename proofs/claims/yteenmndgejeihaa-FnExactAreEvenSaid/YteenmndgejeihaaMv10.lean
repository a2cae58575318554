/- Contract: spec.FollowMoves. Conditions: the slices read as lists (of moves of 64 bits, of numbers). -/
import Derived.Test.YteenmndgejeihaaMv9
import Derived.Test.YteenmndgejeihaaDig1
namespace Go.Proofs.Yteenmndgejeihaa
open Go.RowKit
set_option linter.unusedVariables false
set_option maxRecDepth 4000

theorem Lists_lit4 {w : World} {B : Nat} {u : Value} {l : List Int} (h : Own w B u l) (hB : B ≤ w.heap.size) : Lists (w.alloc (.cells #[u] 22)) B (.slice (some ⟨w.heap.size, 0, none⟩) 1 1) [l] := by
  refine ⟨[u], rfl, ownsRow_mono (World.ownsRow_lit w #[u] 1 (Nat.le_refl _) (by unfold maxLen; omega) rfl) hB, fun i h1 h2 => ?_⟩
  have : i = 0 := by simpa using h2
  subst this
  exact h.below ((Below.refl _ _).alloc (Nat.le_refl _) _)
def mvM (m : Mv) (l : List Int) : List Int := mvL m.1 m.2.1 m.2.2 l
theorem mvM_len (m : Mv) (l : List Int) : (mvM m l).length = l.length := mvL_len _ _ _ _
/-- where the first j steps lead -/
def foN (x : List Int) (ms : List Mv) (st : List Int) : Nat → List Int
  | 0 => x
  | j + 1 => mvM (mGet ms (st.getD j 0).toNat) (foN x ms st j)
theorem foN_len (x : List Int) (ms : List Mv) (st : List Int) : ∀ j, (foN x ms st j).length = x.length
  | 0 => rfl
  | j + 1 => by rw [foN, mvM_len, foN_len x ms st j]
def foL (x : List Int) (ms : List Mv) (st : List Int) (j : Nat) : List (List Int) := (List.range (j + 1)).map (foN x ms st)
theorem foL_succ (x : List Int) (ms : List Mv) (st : List Int) (j : Nat) : foL x ms st (j + 1) = foL x ms st j ++ [foN x ms st (j + 1)] := by
  unfold foL
  rw [List.range_succ, List.map_append]
  rfl
theorem foL_len (x : List Int) (ms : List Mv) (st : List Int) (j : Nat) : (foL x ms st j).length = j + 1 := by simp [foL]
def fmS (ms : List Mv) (st : List Int) : Bool := allTo st.length (fun i => inB (st.getD i 0) 0 ((ms.length : Int) - 1))
def fmB (n : Int) (ms : List Mv) (st : List Int) : Bool := tkB n ms && (decide (st.length ≤ 1099) && fmS ms st)
def fmRes (n : Int) (ms : List Mv) (st : List Int) : List (List Int) := if fmB n ms st = true then foL (upTo n.toNat) ms st st.length else []
set_option maxHeartbeats 1000000 in
theorem spec_FollowMoves_any (n : Int) (v u : Value) (ms : List Mv) (st : List Int) (w : World) (hm : ReadsM w v ms) (hw : wfM ms) (h : Sits w u st) :
    Calls Try.prog 49 #[.int .i64 n, v, u] w fun e w' => ∃ r, e = .returned (.tuple #[r, .bool (fmB n ms st)]) ∧ Lists w' w.heap.size r (fmRes n ms st) ∧ Below w.heap.size w w' := by
  have HRM := hid hm
  have HW := hid hw
  have HS := hid h
  obtain ⟨ao, cm, rfl, hcm, hcmm, hmd⟩ := hm
  have HMD := hid hmd
  unfold maxLen at hcmm
  obtain ⟨bs, os, cs, rfl, hcs1, hcsm, hbs, hcell⟩ := h
  have HC := hid hcell
  clear hmd hcell hw
  cases ht : tkB n ms with
  | false =>
    have HT := hid ht
    have HB := hid (show fmB n ms st = false by rw [fmB, ht]; rfl)
    have HR := hid (show fmRes n ms st = [] by rw [fmRes, HB.out, if_neg (by simp)])
    clear ht
    go_enter Try.func49, Try.ntmps49
    go_wp2_with (first | (go_at_call 87; refine (moTask_any n _ ms _ HRM.out HW.out).mono ?_; rintro e w1 ⟨rfl, hb1⟩; rw [HT.out]; have HB1 := hid hb1; clear hb1) | fail)
    go_ret2
    exact ⟨_, ret_sbA HB.out.symm, by rw [HR.out]; exact Lists.nil _ _, HB1.out⟩
  | true =>
    have HT := hid ht
    obtain ⟨h1, h5, h12, hg⟩ := tk_parts ht
    obtain ⟨N, rfl⟩ : ∃ N : Nat, n = (N : Int) := ⟨n.toNat, by omega⟩
    have HG := hid hg
    clear hg ht
    by_cases hlen : 1099 < st.length
    · have HB := hid (show fmB N ms st = false by rw [fmB, HT.out, decide_eq_false (by omega)]; rfl)
      have HR := hid (show fmRes N ms st = [] by rw [fmRes, HB.out, if_neg (by simp)])
      go_enter Try.func49, Try.ntmps49
      go_wp2_with (first | (go_at_call 87; refine (moTask_any _ _ ms _ HRM.out HW.out).mono ?_; rintro e w1 ⟨rfl, hb1⟩; rw [HT.out]; have HB1 := hid hb1; clear hb1) | fail)
      go_ret2
      exact ⟨_, ret_sbA HB.out.symm, by rw [HR.out]; exact Lists.nil _ _, HB1.out⟩
    · have hwm : IntKind.i64.wrap ((ms.length : Int) - 1) = (ms.length : Int) - 1 := IntWalk.i64_in _ (by omega)
      cases hf : fmS ms st with
      | false =>
        have HF := hid hf
        have HB := hid (show fmB N ms st = false by rw [fmB, hf, Bool.and_false, Bool.and_false])
        have HR := hid (show fmRes N ms st = [] by rw [fmRes, HB.out, if_neg (by simp)])
        clear hf
        go_enter Try.func49, Try.ntmps49
        go_wp2_with (first
          | (go_at_call 87; refine (moTask_any _ _ ms _ HRM.out HW.out).mono ?_; rintro e w1 ⟨rfl, hb1⟩; rw [HT.out]; have HS1 := hid (HS.out.below hb1); have HB1 := hid hb1; clear hb1)
          | (go_at_call 97; refine (l1All_any _ st _ _ _ HS1.out).mono ?_; rintro e w2 ⟨rfl, rfl⟩; rw [show allTo st.length (fun i => inB (st.getD i 0) 0 ((ms.length : Int) - 1)) = false from HF.out])
          | fail)
        go_ret2
        exact ⟨_, ret_sbA HB.out.symm, by rw [HR.out]; exact Lists.nil _ _, HB1.out⟩
      | true =>
        obtain ⟨j0, hj, hy0, hy1, hy2⟩ := info_parts Try.infoL
        have HF := hid hf
        have HB := hid (show fmB N ms st = true by rw [fmB, HT.out, decide_eq_true (by omega), hf]; rfl)
        have HR := hid (show fmRes N ms st = foL (upTo N) ms st st.length by rw [fmRes, HB.out, if_pos rfl]; rfl)
        have HU := hid (upTo_length N)
        clear hf
        go_enter Try.func49, Try.ntmps49
        go_wp2_with (first
          | (go_at_call 87; refine (moTask_any _ _ ms _ HRM.out HW.out).mono ?_; rintro e w1 ⟨rfl, hb1⟩; rw [HT.out]; have HS1 := hid (HS.out.below hb1); have HB1 := hid hb1; have hs1 := hb1.size; clear hb1)
          | (go_at_call 97; refine (l1All_any _ st _ _ _ HS1.out).mono ?_; rintro e w2 ⟨rfl, rfl⟩; rw [show allTo st.length (fun i => inB (st.getD i 0) 0 ((ms.length : Int) - 1)) = true from HF.out])
          | (go_at_call 84; refine (raUpTo_any N _ (by omega)).mono ?_; rintro e w2 ⟨u2, rfl, ho2, hb2⟩; obtain ⟨g2, n2, c2, rfl⟩ := Own.shape ho2 (by rw [HU.out]; omega); have HO2 := hid (ho2.mono hs1); have hb3 := Below_chain HB1.out hb2; have HB2 := hid hb3; have hs2 := hb3.size; have HL2 := hid (Lists_lit4 HO2.out hs2); clear ho2 hb2 hb3)
          | fail)
        have hal : Below w2.heap.size w2 (w2.alloc (.cells #[.slice (some ⟨g2, 0, none⟩) n2 c2] 22)) := (Below.refl _ _).alloc (Nat.le_refl _) _
        have HO3 := hid (HO2.out.below hal)
        have HB3 := hid (Below_chain HB2.out hal)
        clear hal
        go_loopw [8, 9, 35] (fun nv ov i wr => ∃ j : Nat, j ≤ st.length ∧ i = .int .i64 j ∧ Own wr w.heap.size nv (foN (upTo N) ms st j) ∧ Lists wr w.heap.size ov (foL (upTo N) ms st j) ∧ Below w.heap.size w wr) (fun _ _ i _ => st.length - (intOf i).toNat)
        case atStart => exact ⟨0, Nat.zero_le _, rfl, HO3.out, HL2.out, HB3.out⟩
        case round =>
          obtain ⟨t, htl, rfl, hnv, hov, hbel⟩ := hrel
          have HNV := hid hnv
          have HOV := hid hov
          have HBL := hid hbel
          have hsz := hbel.size
          by_cases hlt : t < st.length
          · have hcx0 := HC.out t hlt
            have hin := inB_iff.1 ((allTo_iff _ _).1 HF.out t hlt)
            rw [getD_at hlt] at hin
            obtain ⟨q, hq⟩ : ∃ q : Nat, st[t] = (q : Int) := ⟨st[t].toNat, by omega⟩
            rw [hq] at hcx0 hin
            have hcx := (hbel.cell (p := ⟨bs, os + t, none⟩) (by exact hbs)).trans hcx0
            have hqm : q < ms.length := by omega
            have HQ := hid (show (st.getD t 0).toNat = q by rw [getD_at hlt, hq]; omega)
            rcases HMD.out with h0 | ⟨bb, off, rfl, hbb, hcm3⟩
            · rw [h0] at hqm; simp at hqm
            obtain ⟨e0, e1, e2⟩ := hcm3 q hqm
            have hc0 := (hbel.cell (p := ⟨bb, off + q * 3, none⟩) (by exact hbb)).trans e0
            have hc1' := (hbel.cell (p := ⟨bb, off + q * 3 + 1, none⟩) (by exact hbb)).trans e1
            have hc2 := (hbel.cell (p := ⟨bb, off + q * 3 + 2, none⟩) (by exact hbb)).trans e2
            have hmt := HG.out q hqm
            rw [mvAt, mGet_at hqm] at hmt
            have HFN := hid (show foN (upTo N) ms st (t + 1) = mvL ms[q].1 ms[q].2.1 ms[q].2.2 (foN (upTo N) ms st t) by rw [foN, HQ.out, mGet_at hqm]; rfl)
            have HFL := hid (foL_succ (upTo N) ms st t)
            have HFK := hid (foL_len (upTo N) ms st t)
            rw [HFN.out] at HFL
            obtain ⟨m, hm⟩ : ∃ m, m = ms[q] := ⟨_, rfl⟩
            rw [← hm] at hc0 hc1' hc2 HFN HFL hmt
            obtain ⟨k, i, jj⟩ := m
            simp only at hc0 hc1' hc2 HFN HFL hmt
            obtain ⟨x, hx⟩ : ∃ x, x = foN (upTo N) ms st t := ⟨_, rfl⟩
            obtain ⟨D, hD⟩ : ∃ D, D = foL (upTo N) ms st t := ⟨_, rfl⟩
            have hxl : x.length = N := by rw [hx, foN_len, HU.out]
            have HXL := hid hxl
            have HM := hid (show mvB x.length k i jj = true by rw [hxl]; exact hmt)
            rw [← hx] at HNV HFN HFL
            rw [← hD] at HOV HFL HFK
            have hDl : D.length ≤ 1100 := by rw [HFK.out]; omega
            obtain ⟨gx, nx, cx, hnx⟩ := Own.shape HNV.out (by omega)
            subst hnx
            have hq0 : (0 : Int) ≤ (q : Int) := by omega
            have hq1 : (q : Int) < (ms.length : Int) := by omega
            clear e0 e1 e2 hcm3 hcx0 hin hq hmt hm hx hD hxl hnv hov hbel
            go_wp2_with (first
              | (go_at_call 79; refine (moApply_any _ x k i jj _ ?_ (by rw [HXL.out]; omega) HM.out).mono ?_; (first | exact HNV.out.reads | exact (HNV.out.below (by assumption)).reads); rintro e w5 ⟨u5, rfl, ho5, hb5⟩; obtain ⟨g5, n5, c5, rfl⟩ := Own.shape ho5 (by rw [mvL_len, HXL.out]; omega); have HO5 := hid (ho5.mono hsz); have hb6 := Below_chain HBL.out hb5; have HB5 := hid hb6; have hs5 := hb6.size; obtain ⟨vs, hvl, hvr, hve⟩ := HOV.out.below hb5; have HVL := hid hvl; have HVR := hid hvr; have HVE := hid hve; have HONE := hid HO5.out.one; have HOA := hid (HO5.out.below ((Below.refl _ _).alloc (Nat.le_refl _) (.cells #[.slice (some ⟨g5, 0, none⟩) n5 c5] 22))); clear ho5 hb5 hb6 hvl hvr hve)
              | (at_builtin; refine wpList_append_own _ rfl _ _ 45 rfl w.heap.size 22 j0 (.slice none 0 0) 1 24 Try.underlying45 hj hy0 hy1 hy2 rfl (by decide) _ _ _ rfl (World.ownsRow.alloc HVR.out _) ⟨w5.heap.size, 0, none⟩ 1 1 [.slice (some ⟨g5, 0, none⟩) n5 c5] rfl rfl (fun j u hj => new_cellV j hj) HONE.out (by unfold maxLen; omega) (by omega) (by simp; omega) ?_; intro v6 w6 hown6 hgrow6 hn6; have HPU := hid (Lists_push HVL.out (World.ownsRow.alloc HVR.out _) (fun i a b => (HVE.out i a b).below ((Below.refl _ _).alloc (Nat.le_refl _) _)) HOA.out hown6 hgrow6); have HO6 := hid (Own.kept_type HOA.out (T := 22) (by decide) (World.ownsRow.alloc HVR.out _) hgrow6); have HB6 := hid ((HB5.out.alloc hs5 (.cells #[.slice (some ⟨g5, 0, none⟩) n5 c5] 22)).grown hgrow6 (by simp; omega) (fun q hq => (World.ownsRow.lt HVR.out q hq).1)); clear hown6 hgrow6 hn6)
              | fail)
            go_roundw
            case rel => exact ⟨t + 1, by omega, by go_num, by rw [HFN.out]; exact HO6.out, by rw [HFL.out]; exact HPU.out, HB6.out⟩
            case measure => simp [intOf]; omega
          · obtain rfl : t = st.length := by omega
            clear hnv hov hbel
            go_wp2_with fail
            go_ret2
            exact ⟨_, ret_sbA HB.out.symm, by rw [HR.out]; exact HOV.out, HBL.out⟩
end Go.Proofs.Yteenmndgejeihaa
