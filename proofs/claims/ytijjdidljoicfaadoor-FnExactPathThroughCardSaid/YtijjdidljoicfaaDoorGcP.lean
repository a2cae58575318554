/- Contract: gcPath. Conditions: words below 1024. -/
import Derived.Test.YtijjdidljoicfaaDoorPut
import Derived.Test.YtijjdidljoicfaaDoorTake
namespace Go.Proofs.YtijjdidljoicfaaDoor
open Go.RowKit
set_option linter.unusedVariables false

theorem Own.slice {w : World} {B : Nat} {v : Value} {xs : List Int} (h : Own w B v xs) : ∃ ao c, v = .slice ao xs.length c := by
  rcases h.form with ⟨rfl, rfl⟩ | ⟨g, cap, rfl, _⟩
  · exact ⟨none, 0, rfl⟩
  · exact ⟨_, _, rfl⟩
theorem gcpL_skip {f : List Int → List Int} {p ws : List Int} {k : Nat} (hk : k < ws.length) (h : stopB p ws[k] = true) : gcpL f p (ws.drop k) = gcpL f p (ws.drop (k + 1)) := by
  rw [List.drop_eq_getElem_cons hk, gcpL, if_pos h]
theorem gcpL_none {f : List Int → List Int} {p ws : List Int} {k : Nat} (hk : k < ws.length) (h : stopB p ws[k] = false) (hf : (f (p ++ [ws[k]])).length = 0) : gcpL f p (ws.drop k) = gcpL f p (ws.drop (k + 1)) := by
  rw [List.drop_eq_getElem_cons hk, gcpL, if_neg (by rw [h]; simp), if_pos hf]
theorem gcpL_hit {f : List Int → List Int} {p ws : List Int} {k : Nat} (hk : k < ws.length) (h : stopB p ws[k] = false) (hf : (f (p ++ [ws[k]])).length ≠ 0) : gcpL f p (ws.drop k) = f (p ++ [ws[k]]) := by
  rw [List.drop_eq_getElem_cons hk, gcpL, if_neg (by rw [h]; simp), if_neg hf]
theorem small_more {l : List Int} {x : Int} (h : small l) (h0 : 0 ≤ x) (h1 : x < 1024) : small (l ++ [x]) := fun i hi => by
  by_cases hl : i < l.length
  · obtain ⟨y, e, hy⟩ := h i hl
    exact ⟨y, by rw [← e]; simp [List.getD_eq_getElem?_getD, List.getElem?_append_left hl], hy⟩
  · have hi2 : i = l.length := by simp at hi; omega
    subst hi2
    exact ⟨x.toNat, by simp [List.getD_eq_getElem?_getD]; omega, by omega⟩
theorem l1Own_nil (w : World) : Calls Tryd.prog 35 #[.slice none 0 0] w fun e w' => ∃ u, e = .returned u ∧ Own w' w.heap.size u [] ∧ Below w.heap.size w w' := by
  obtain ⟨i0, hi, hz0, hz1, hz2⟩ := info_parts Tryd.info3
  have HE := hid (show (w.alloc (.cells #[] 3)).ownsRow w.heap.size 3 1 (.slice (some ⟨w.heap.size, 0, none⟩) 0 0) 0 [] from World.ownsRow_made w #[] 0 (Nat.le_refl _) (by unfold maxLen; omega) rfl)
  have HB := hid ((Below.refl w.heap.size w).alloc (Nat.le_refl _) (.cells #[] 3))
  go_enter Tryd.func35, Tryd.ntmps35
  go_wp2_with (first | (at_builtin; refine wpList_append_none _ rfl _ _ 22 rfl w.heap.size 3 i0 1 Tryd.underlying22 hi _ _ _ rfl HE.out rfl ?_) | fail)
  go_ret
  exact ⟨_, rfl, HE.out, HB.out⟩
theorem l1Own_own (v : Value) (xs : List Int) (B : Nat) (w : World) (h : Own w B v xs) (hl : xs.length ≤ 1048576) :
    Calls Tryd.prog 35 #[v] w fun e w' => ∃ u, e = .returned u ∧ Own w' w.heap.size u xs ∧ Below w.heap.size w w' := by
  rcases h.form with ⟨rfl, rfl⟩ | ⟨g, cap, rfl, _⟩
  · exact l1Own_nil w
  · refine (l1Own_any _ xs w h.sits hl).mono ?_
    rintro e w' ⟨u, h1, h2, h3, _⟩
    exact ⟨u, h1, h2, h3⟩
set_option maxHeartbeats 2000000 in
theorem gcPath_any (ws : List Int) (gw ow cw : Nat) (hws : ∀ i (hi : i < ws.length), 0 ≤ ws[i] ∧ ws[i] < 1024) (hlen : ws.length ≤ 12) : ∀ (m : Nat) (p : List Int) (v : Value) (B : Nat) (w : World), p.length + m = ws.length → Own w B v p → B ≤ w.heap.size → small p →
    Sits w (.slice (some ⟨gw, ow, none⟩) ws.length cw) ws →
    Calls Tryd.prog 18 #[v, .slice (some ⟨gw, ow, none⟩) ws.length cw] w fun e w' => ∃ u, e = .returned u ∧ Own w' B u (gcp ws m p) ∧ Below w.heap.size w w' := by
  intro m
  induction m with
  | zero =>
    intro p v B w hpm hown hB hsm hs
    have HO := hid hown
    obtain ⟨ao, c, rfl⟩ := hown.slice
    have hbb : ((p.length : Int) == (ws.length : Int)) = true := by have : p.length = ws.length := by omega
                                                                    rw [this]; simp
    clear hpm hown hs
    go_enter Tryd.func18, Tryd.ntmps18
    go_wp2_with fail
    go_ret
    exact ⟨_, rfl, HO.out, Below.refl _ _⟩
  | succ m ih =>
    intro p v B w hpm hown hB hsm hs
    obtain ⟨i0, hi, hz0, hz1, hz2⟩ := info_parts Tryd.info3
    have HO0 := hid hown
    obtain ⟨ao, c, hv⟩ := hown.slice
    subst hv
    have hbb : ((p.length : Int) == (ws.length : Int)) = false := beq_false_of_ne (by omega)
    have hpl : p.length ≤ 12 := by omega
    have HPM := hid hpm
    have HSM := hid hsm
    have HS0 := hid hs
    have hbw : gw < w.heap.size := by
      obtain ⟨b, off, c', e, _, _, h3, _⟩ := hs
      simp only [Value.slice.injEq, Option.some.injEq, Addr.mk.injEq, and_true] at e
      obtain ⟨⟨rfl, _⟩, _, _⟩ := e
      exact h3
    clear hpm hown hsm hs
    go_enter Tryd.func18, Tryd.ntmps18
    go_wp2_with fail
    go_loopw [6, 7, 16] (fun _ _ i wr => ∃ k : Nat, k ≤ ws.length ∧ i = .int .i64 k ∧ gcpL (gcp ws m) p ws = gcpL (gcp ws m) p (ws.drop k) ∧ Below w.heap.size w wr) (fun _ _ i _ => ws.length - (intOf i).toNat)
    case atStart => exact ⟨0, Nat.zero_le _, rfl, rfl, Below.refl _ _⟩
    case round =>
      obtain ⟨k, hk, rfl, heq, hbel⟩ := hrel
      have HEQ := hid heq
      have HB := hid hbel
      have HS := hid (HS0.out.below hbel)
      have HO := hid (HO0.out.below hbel)
      have HRD := hid HO.out.reads
      have hszw := hbel.size
      clear heq
      by_cases hlt : k < ws.length
      · have hcx := (Sits.at' HS.out).2 k hlt
        obtain ⟨x, hx⟩ : ∃ x, x = ws[k] := ⟨_, rfl⟩
        have hx2 := hws k hlt
        have HX := hid hx
        rw [← hx] at hcx hx2
        obtain ⟨xn, hxn⟩ : ∃ xn : Nat, x = (xn : Int) := ⟨x.toNat, by omega⟩
        subst hxn
        have hxl : xn < 1024 := by omega
        clear hbel hx
        cases hhb : hasB p (xn : Int) with
        | true =>
          have HHB := hid hhb
          have HST := hid (show stopB p ws[k] = true by rw [← HX.out, stopB, hhb]; rfl)
          clear hhb
          go_wp2_with (first | (go_at_call 33; refine (l1Has_any _ p (xn : Int) _ HRD.out).mono ?_; rintro e w1 ⟨rfl, rfl⟩; rw [HHB.out]) | fail)
          go_roundw
          case rel => exact ⟨k + 1, by omega, by go_num, HEQ.out.trans (gcpL_skip hlt HST.out), HB.out⟩
          case measure => simp [intOf]; omega
        | false =>
          have HHB := hid hhb
          obtain ⟨q, hq⟩ : ∃ q, q = gcp ws m (p ++ [(xn : Int)]) := ⟨_, rfl⟩
          have HQ := hid hq
          have HSX := hid (small_more HSM.out hx2.1 hx2.2)
          have HLX := hid (show (p ++ [(xn : Int)]).length + m = ws.length by have := HPM.out; simp; omega)
          clear hq
          by_cases hp0 : p.length = 0
          · have HFB := hid (show stopB p ws[k] = false by rw [← HX.out, stopB, hhb, folB, decide_eq_true hp0]; rfl)
            have hp1 : ¬ (0 : Int) < (p.length : Int) := by omega
            have HP0 := hid hp0
            clear hhb hp0
            by_cases hq0 : q.length = 0
            · have hq1 : ¬ (0 : Int) < (q.length : Int) := by omega
              have HQ0 := hid hq0
              clear hq0
              go_wp2_with (first
                | (go_at_call 33; refine (l1Has_any _ p (xn : Int) _ HRD.out).mono ?_; rintro e w1 ⟨rfl, rfl⟩; rw [HHB.out])
                | (go_at_call 35; refine (l1Own_own _ p B _ HO.out (by omega)).mono ?_; rintro e w1 ⟨u1, rfl, ho1, hb1⟩; obtain ⟨ao1, c1, rfl⟩ := ho1.slice; have HO1 := hid ho1; have HB1 := hid hb1; have hs1 := hb1.size; clear ho1 hb1)
                | (at_builtin; refine wpList_append_kept _ rfl _ _ 22 rfl wr.heap.size 3 i0 (.int .i64 0) 8 Tryd.underlying22 hi hz0 hz1 hz2 rfl _ _ _ rfl (World.ownsRow.alloc HO1.out.row _) ⟨w1.heap.size, 0, none⟩ 1 (.int .i64 (xn : Int)) rfl (fun j y hj => new_cell1 j hj) rfl (by unfold maxLen; omega) (by omega) (by simp; omega) ?_; intro g2 cap2 w2 hown2 hgrow2 hloc2 hlt2; have HO2 := hid (Own.snoc hown2); have HB2 := hid ((HB1.out.alloc hs1 (.cells #[.int .i64 (xn : Int)] 3)).grown hgrow2 (by simp; omega) (fun q hq => (World.ownsRow.lt HO1.out q hq).1)); have hs2 := HB2.out.size; clear hown2 hgrow2 hloc2 hlt2)
                | (go_at_call 18; refine (ih (p ++ [(xn : Int)]) _ wr.heap.size _ HLX.out HO2.out hs2 HSX.out (HS.out.below HB2.out)).mono ?_; rintro e w3 ⟨u3, rfl, ho3, hb3⟩; rw [← HQ.out] at ho3; obtain ⟨ao3, c3, rfl⟩ := ho3.slice; have HO3 := hid ho3; have HB3 := hid hb3; clear ho3 hb3)
                | fail)
              go_roundw
              case rel => exact ⟨k + 1, by omega, by go_num, HEQ.out.trans (gcpL_none hlt HFB.out (by rw [← HX.out, ← HQ.out]; exact HQ0.out)), HB.out.trans ((HB2.out.trans (HB3.out.mono hs2)).mono hszw)⟩
              case measure => simp [intOf]; omega
            · have hq1 : (0 : Int) < (q.length : Int) := by omega
              have HQ0 := hid hq0
              clear hq0
              go_wp2_with (first
                | (go_at_call 33; refine (l1Has_any _ p (xn : Int) _ HRD.out).mono ?_; rintro e w1 ⟨rfl, rfl⟩; rw [HHB.out])
                | (go_at_call 35; refine (l1Own_own _ p B _ HO.out (by omega)).mono ?_; rintro e w1 ⟨u1, rfl, ho1, hb1⟩; obtain ⟨ao1, c1, rfl⟩ := ho1.slice; have HO1 := hid ho1; have HB1 := hid hb1; have hs1 := hb1.size; clear ho1 hb1)
                | (at_builtin; refine wpList_append_kept _ rfl _ _ 22 rfl wr.heap.size 3 i0 (.int .i64 0) 8 Tryd.underlying22 hi hz0 hz1 hz2 rfl _ _ _ rfl (World.ownsRow.alloc HO1.out.row _) ⟨w1.heap.size, 0, none⟩ 1 (.int .i64 (xn : Int)) rfl (fun j y hj => new_cell1 j hj) rfl (by unfold maxLen; omega) (by omega) (by simp; omega) ?_; intro g2 cap2 w2 hown2 hgrow2 hloc2 hlt2; have HO2 := hid (Own.snoc hown2); have HB2 := hid ((HB1.out.alloc hs1 (.cells #[.int .i64 (xn : Int)] 3)).grown hgrow2 (by simp; omega) (fun q hq => (World.ownsRow.lt HO1.out q hq).1)); have hs2 := HB2.out.size; clear hown2 hgrow2 hloc2 hlt2)
                | (go_at_call 18; refine (ih (p ++ [(xn : Int)]) _ wr.heap.size _ HLX.out HO2.out hs2 HSX.out (HS.out.below HB2.out)).mono ?_; rintro e w3 ⟨u3, rfl, ho3, hb3⟩; rw [← HQ.out] at ho3; obtain ⟨ao3, c3, rfl⟩ := ho3.slice; have HO3 := hid ho3; have HB3 := hid hb3; clear ho3 hb3)
                | fail)
              go_ret
              have HG := hid (show gcp ws (m + 1) p = q from (HEQ.out.trans (gcpL_hit hlt HFB.out (by rw [← HX.out, ← HQ.out]; exact HQ0.out))).trans (by rw [← HX.out]; exact HQ.out.symm))
              rw [HG.out]
              exact ⟨_, rfl, HO3.out.mono (by omega), HB.out.trans ((HB2.out.trans (HB3.out.mono hs2)).mono hszw)⟩
          · obtain ⟨j, hj⟩ : ∃ j : Nat, p.length = j + 1 := ⟨p.length - 1, by omega⟩
            have hjp : j < p.length := by omega
            obtain ⟨y, hy, hy2⟩ := HSM.out j hjp
            have hview := HRD.out
            obtain ⟨ao', c', he, hcc, hmm, hcell⟩ := hview.view
            simp only [Value.slice.injEq, true_and] at he
            obtain ⟨rfl, rfl⟩ := he
            rcases hcell with hnil | ⟨gb, ob, rfl, hgb, hcell⟩
            · exact absurd (by rw [hnil]; rfl) hp0
            have hcy : wr.cell? ⟨gb, ob + j, none⟩ = some (.int .i64 (y : Int)) := by
              rw [hcell j hjp, ← hy, getD_at hjp]
            have hp1 : (0 : Int) < (p.length : Int) := by omega
            have hj0 : (0 : Int) ≤ (j : Int) := by omega
            have hj1 : (j : Int) < (p.length : Int) := by omega
            have hww : IntKind.i64.wrap ((p.length : Int) - 1) = (j : Int) := by rw [show (p.length : Int) - 1 = (j : Int) by omega]; exact IntWalk.i64_in _ (by omega)
            have hwj : IntKind.i64.wrap (j : Int) = (j : Int) := IntWalk.i64_in _ (by omega)
            obtain ⟨d, hd⟩ : ∃ d, d = bitD (y ^^^ xn) := ⟨_, rfl⟩
            have HD := hid hd.symm
            have HFO := hid (show folB p (xn : Int) = decide (0 ≤ d) by
              rw [folB, decide_eq_false hp0, Bool.false_or, lastN, show p.length - 1 = j by omega, hy, hd]
              rfl)
            clear hcell hview hy hd hj
            by_cases hd0 : d < 0
            · have HST := hid (show stopB p ws[k] = true by rw [← HX.out, stopB, hhb, HFO.out, decide_eq_false (by omega)]; rfl)
              clear hhb hp0
              go_wp2_with (first
                | (go_at_call 33; refine (l1Has_any _ p (xn : Int) _ HRD.out).mono ?_; rintro e w1 ⟨rfl, rfl⟩; rw [HHB.out])
                | (go_at_call 34; refine (gcBit_any y xn _ hy2 hxl).mono ?_; rintro e w1 ⟨rfl, rfl⟩; rw [HD.out])
                | fail)
              go_roundw
              case rel => exact ⟨k + 1, by omega, by go_num, HEQ.out.trans (gcpL_skip hlt HST.out), HB.out⟩
              case measure => simp [intOf]; omega
            · have HFB := hid (show stopB p ws[k] = false by rw [← HX.out, stopB, hhb, HFO.out, decide_eq_true (by omega)]; rfl)
              have hd1 : 0 ≤ d := by omega
              clear hhb hp0
              by_cases hq0 : q.length = 0
              · have hq1 : ¬ (0 : Int) < (q.length : Int) := by omega
                have HQ0 := hid hq0
                clear hq0
                go_wp2_with (first
                  | (go_at_call 33; refine (l1Has_any _ p (xn : Int) _ HRD.out).mono ?_; rintro e w1 ⟨rfl, rfl⟩; rw [HHB.out])
                  | (go_at_call 34; refine (gcBit_any y xn _ hy2 hxl).mono ?_; rintro e w1 ⟨rfl, rfl⟩; rw [HD.out])
                  | (go_at_call 35; refine (l1Own_own _ p B _ HO.out (by omega)).mono ?_; rintro e w1 ⟨u1, rfl, ho1, hb1⟩; obtain ⟨ao1, c1, rfl⟩ := ho1.slice; have HO1 := hid ho1; have HB1 := hid hb1; have hs1 := hb1.size; clear ho1 hb1)
                  | (at_builtin; refine wpList_append_kept _ rfl _ _ 22 rfl wr.heap.size 3 i0 (.int .i64 0) 8 Tryd.underlying22 hi hz0 hz1 hz2 rfl _ _ _ rfl (World.ownsRow.alloc HO1.out.row _) ⟨w1.heap.size, 0, none⟩ 1 (.int .i64 (xn : Int)) rfl (fun j y hj => new_cell1 j hj) rfl (by unfold maxLen; omega) (by omega) (by simp; omega) ?_; intro g2 cap2 w2 hown2 hgrow2 hloc2 hlt2; have HO2 := hid (Own.snoc hown2); have HB2 := hid ((HB1.out.alloc hs1 (.cells #[.int .i64 (xn : Int)] 3)).grown hgrow2 (by simp; omega) (fun q hq => (World.ownsRow.lt HO1.out q hq).1)); have hs2 := HB2.out.size; clear hown2 hgrow2 hloc2 hlt2)
                  | (go_at_call 18; refine (ih (p ++ [(xn : Int)]) _ wr.heap.size _ HLX.out HO2.out hs2 HSX.out (HS.out.below HB2.out)).mono ?_; rintro e w3 ⟨u3, rfl, ho3, hb3⟩; rw [← HQ.out] at ho3; obtain ⟨ao3, c3, rfl⟩ := ho3.slice; have HO3 := hid ho3; have HB3 := hid hb3; clear ho3 hb3)
                  | fail)
                go_roundw
                case rel => exact ⟨k + 1, by omega, by go_num, HEQ.out.trans (gcpL_none hlt HFB.out (by rw [← HX.out, ← HQ.out]; exact HQ0.out)), HB.out.trans ((HB2.out.trans (HB3.out.mono hs2)).mono hszw)⟩
                case measure => simp [intOf]; omega
              · have hq1 : (0 : Int) < (q.length : Int) := by omega
                have HQ0 := hid hq0
                clear hq0
                go_wp2_with (first
                  | (go_at_call 33; refine (l1Has_any _ p (xn : Int) _ HRD.out).mono ?_; rintro e w1 ⟨rfl, rfl⟩; rw [HHB.out])
                  | (go_at_call 34; refine (gcBit_any y xn _ hy2 hxl).mono ?_; rintro e w1 ⟨rfl, rfl⟩; rw [HD.out])
                  | (go_at_call 35; refine (l1Own_own _ p B _ HO.out (by omega)).mono ?_; rintro e w1 ⟨u1, rfl, ho1, hb1⟩; obtain ⟨ao1, c1, rfl⟩ := ho1.slice; have HO1 := hid ho1; have HB1 := hid hb1; have hs1 := hb1.size; clear ho1 hb1)
                  | (at_builtin; refine wpList_append_kept _ rfl _ _ 22 rfl wr.heap.size 3 i0 (.int .i64 0) 8 Tryd.underlying22 hi hz0 hz1 hz2 rfl _ _ _ rfl (World.ownsRow.alloc HO1.out.row _) ⟨w1.heap.size, 0, none⟩ 1 (.int .i64 (xn : Int)) rfl (fun j y hj => new_cell1 j hj) rfl (by unfold maxLen; omega) (by omega) (by simp; omega) ?_; intro g2 cap2 w2 hown2 hgrow2 hloc2 hlt2; have HO2 := hid (Own.snoc hown2); have HB2 := hid ((HB1.out.alloc hs1 (.cells #[.int .i64 (xn : Int)] 3)).grown hgrow2 (by simp; omega) (fun q hq => (World.ownsRow.lt HO1.out q hq).1)); have hs2 := HB2.out.size; clear hown2 hgrow2 hloc2 hlt2)
                  | (go_at_call 18; refine (ih (p ++ [(xn : Int)]) _ wr.heap.size _ HLX.out HO2.out hs2 HSX.out (HS.out.below HB2.out)).mono ?_; rintro e w3 ⟨u3, rfl, ho3, hb3⟩; rw [← HQ.out] at ho3; obtain ⟨ao3, c3, rfl⟩ := ho3.slice; have HO3 := hid ho3; have HB3 := hid hb3; clear ho3 hb3)
                  | fail)
                go_ret
                have HG := hid (show gcp ws (m + 1) p = q from (HEQ.out.trans (gcpL_hit hlt HFB.out (by rw [← HX.out, ← HQ.out]; exact HQ0.out))).trans (by rw [← HX.out]; exact HQ.out.symm))
                rw [HG.out]
                exact ⟨_, rfl, HO3.out.mono (by omega), HB.out.trans ((HB2.out.trans (HB3.out.mono hs2)).mono hszw)⟩
      · obtain rfl : k = ws.length := by omega
        have HG := hid (show gcp ws (m + 1) p = [] from HEQ.out.trans (by rw [List.drop_length]; rfl))
        clear hbel
        go_wp2_with fail
        go_ret
        rw [HG.out]
        exact ⟨_, rfl, Own.nil _ _, HB.out⟩
end Go.Proofs.YtijjdidljoicfaaDoor
