/- Contract: walk with impl.differInOneBit and impl.CountCodes$1. Conditions: what both keep is kept by appends to other rows. -/
import Derived.Test.YtijjdidljoicfaaDoorWkM
import Derived.Test.YtijjdidljoicfaaDoorCont
import Derived.Test.YtijjdidljoicfaaDoorAt1
namespace Go.Proofs.YtijjdidljoicfaaDoor
open Go.RowKit
set_option linter.unusedVariables false

set_option maxHeartbeats 2000000 in
theorem walk_WkC {σ : Type} (ws : List Int) (vis : List Int → σ → Bool × σ) (nr : Int → Int → Bool) (ok : Int → Prop) (J : World → σ → Prop) (M gw ow cw : Nat) (A0 A1 : Addr)
    (hws : ∀ i (hi : i < ws.length), ok ws[i]) (hpos : 0 < ws.length) (hlen : ws.length ≤ 1024)
    (live : σ → Prop) (HL : ∀ p s s1, live s → vis p s = (true, s1) → live s1)
    (HJ : ∀ w w' row s, live s → J w s → w.grownBy w' row → (∀ k, row = some k → M ≤ k) → J w' s)
    (HW : ∀ w s, J w s → Sits w (.slice (some ⟨gw, ow, none⟩) ws.length cw) ws)
    (HN : ∀ w s y x, J w s → ok y → ok x → Calls Tryd.prog 24 #[.int .i64 y, .int .i64 x] w fun e w' => e = .returned (.bool (nr y x)) ∧ J w' s ∧ Below w.heap.size w w')
    (HV : ∀ w s g cap p, live s → J w s → Own w M (.slice (some ⟨g, 0, none⟩) p.length cap) p → p.length = ws.length → (∀ i, i < p.length → ok (p.getD i 0)) → M ≤ w.heap.size →
      Calls Tryd.prog 28 #[.slice (some ⟨g, 0, none⟩) p.length cap, .pointer (some A0), .pointer (some A1)] w fun e w' => e = .returned (.bool (vis p s).1) ∧ J w' (vis p s).2 ∧ Fr M none w w') :
    ∀ (m : Nat) (p : List Int) (v : Value) (s : σ) (w : World), live s → p.length + m = ws.length → Own w M v p → J w s → (∀ i, i < p.length → ok (p.getD i 0)) → M ≤ w.heap.size →
      Calls Tryd.prog 23 #[.slice (some ⟨gw, ow, none⟩) ws.length cw, v, .func (.func 24) #[] #[], .func (.func 28) #[] #[.pointer (some A0), .pointer (some A1)]] w fun e w' =>
        e = .returned (.bool (wk (stopG nr) ws vis m p s).1) ∧ J w' (wk (stopG nr) ws vis m p s).2 ∧ Own w' M v p ∧ Fr M v.ownBlock w w' := by
  intro m
  induction m with
  | zero =>
    intro p v s w hlive hpm hown hj hsm hM
    rcases hown.form with ⟨_, h0⟩ | ⟨g, cap, rfl, hgM, hglt, _⟩
    · rw [h0] at hpm; simp at hpm; omega
    · have hbb : ((p.length : Int) == (ws.length : Int)) = true := by have : p.length = ws.length := by omega
                                                                      rw [this]; simp
      have HPL := hid (show p.length = ws.length by omega)
      have HO := hid hown
      have HJJ := hid hj
      have HSM := hid hsm
      have HLV := hid hlive
      clear hpm hown hj hsm hlive
      obtain ⟨r, hr⟩ : ∃ r, r = vis p s := ⟨_, rfl⟩
      have HR := hid hr
      have HG := hid (show wk (stopG nr) ws vis 0 p s = r from hr.symm)
      obtain ⟨b1, s1⟩ := r
      clear hr
      go_enter Tryd.func23, Tryd.ntmps23
      go_wp2_with (first | (go_at_call 28; refine (HV _ s g cap p HLV.out HJJ.out HO.out HPL.out HSM.out hM).mono ?_; rintro e w1 ⟨rfl, hj1, hf1⟩; rw [← HR.out] at hj1 ⊢; have HJ1 := hid hj1; have HF1 := hid hf1; clear hj1 hf1) | fail)
      go_ret
      rw [HG.out]
      exact ⟨rfl, HJ1.out, HO.out.fr HF1.out (.inr (by simp [Value.ownBlock])), HF1.out.any⟩
  | succ m ih =>
    intro p v s w hlive hpm hown hj hsm hM
    obtain ⟨i0, hi, hz0, hz1, hz2⟩ := info_parts Tryd.info3
    obtain ⟨ao, c, hv⟩ : ∃ ao c, v = .slice ao p.length c := by
      rcases hown.form with ⟨rfl, rfl⟩ | ⟨g, cap, rfl, _⟩
      · exact ⟨none, 0, rfl⟩
      · exact ⟨_, _, rfl⟩
    subst hv
    have hbb : ((p.length : Int) == (ws.length : Int)) = false := beq_false_of_ne (by omega)
    have hpl : p.length ≤ 1024 := by omega
    have HPM := hid hpm
    have HO0 := hid hown
    have HJ0 := hid hj
    have HSM := hid hsm
    have HLIVE := hid hlive
    have HWS := hid hws
    clear hpm hown hj hsm hlive hws
    go_enter Tryd.func23, Tryd.ntmps23
    go_wp2_with fail
    go_loopw [21] (fun i wr => ∃ (k : Nat) (s' : σ), k ≤ ws.length ∧ i = .int .i64 k ∧ live s' ∧ J wr s' ∧ Own wr M (.slice ao p.length c) p ∧ Fr M (Value.ownBlock (.slice ao p.length c)) w wr ∧ wkL (stopG nr) (wk (stopG nr) ws vis m) p ws s = wkL (stopG nr) (wk (stopG nr) ws vis m) p (ws.drop k) s') (fun i _ => ws.length - (intOf i).toNat)
    case atStart => exact ⟨0, s, Nat.zero_le _, rfl, HLIVE.out, HJ0.out, HO0.out, Fr.refl _ _ _, rfl⟩
    case round =>
      obtain ⟨k, s', hk, rfl, hlv, hj, hown, hfr, heq⟩ := hrel
      have HLV := hid hlv
      have HO := hid hown
      have HJJ := hid hj
      have HFR := hid hfr
      have HEQ := hid heq
      have hMr : M ≤ wr.heap.size := Nat.le_trans hM hfr.size
      have HRD := hid hown.reads
      by_cases hlt : k < ws.length
      · have hcx := (Sits.at' (HW _ _ hj)).2 k hlt
        obtain ⟨x, hx⟩ : ∃ x, x = ws[k] := ⟨_, rfl⟩
        have HOX := hid (show ok x by rw [hx]; exact HWS.out k hlt)
        have HX := hid hx
        rw [← hx] at hcx
        clear hown hj hfr heq hx hlv
        have HSX := hid (show ∀ i, i < (p ++ [x]).length → ok ((p ++ [x]).getD i 0) from fun i hi => by
          by_cases h : i < p.length
          · have e : (p ++ [x]).getD i 0 = p.getD i 0 := by simp [List.getD_eq_getElem?_getD, List.getElem?_append_left h]
            rw [e]
            exact HSM.out i h
          · have hi2 : i = p.length := by simp at hi; omega
            subst hi2
            have e : (p ++ [x]).getD p.length 0 = x := by simp [List.getD_eq_getElem?_getD]
            rw [e]
            exact HOX.out)
        have HLX := hid (show (p ++ [x]).length + m = ws.length by have := HPM.out; simp; omega)
        cases hhb : hasB p x with
        | true =>
          have HHB := hid hhb
          have HST := hid (show stopG nr p ws[k] = true by rw [← HX.out, stopG, hhb]; rfl)
          clear hhb
          go_wp2_with (first
            | (go_at_call 40; refine (Contains_any _ p x _ HRD.out).mono ?_; rintro e w1 ⟨rfl, rfl⟩; rw [HHB.out])
            | fail)
          go_roundw
          case rel => exact ⟨k + 1, s', by omega, by go_num, HLV.out, HJJ.out, HO.out, HFR.out, HEQ.out.trans (wkL_skip hlt HST.out)⟩
          case measure => simp [intOf]; omega
        | false =>
          have HHB := hid hhb
          by_cases hp0 : p.length = 0
          · have HST := hid (show stopG nr p ws[k] = false by rw [← HX.out, stopG, hhb, folG, decide_eq_true hp0]; rfl)
            have hp1 : ¬ (0 : Int) < (p.length : Int) := by omega
            have HALL := hid (wk_all (x := x) (fun a b c => HJ a b c s' HLV.out) HJJ.out HO.out hMr); have HEND := hid (wk_end (x := x) HFR.out HO.out)
            clear hhb hp0
            obtain ⟨r, hr⟩ : ∃ r, r = wk (stopG nr) ws vis m (p ++ [x]) s' := ⟨_, rfl⟩
            have HR := hid hr
            obtain ⟨b1, s1⟩ := r
            clear hr HW HV HN
            cases b1 with
            | true =>
              go_wp2_with (first
                | (go_at_call 40; refine (Contains_any _ p x _ HRD.out).mono ?_; rintro e w1 ⟨rfl, rfl⟩; rw [HHB.out])
                | (at_builtin; refine wpList_append_kept _ rfl _ _ 22 rfl M 3 i0 (.int .i64 0) 8 Tryd.underlying22 hi hz0 hz1 hz2 rfl _ _ _ rfl (World.ownsRow.alloc HO.out.row _) ⟨wr.heap.size, 0, none⟩ 1 (.int .i64 x) rfl (fun j y hj => new_cell1 j hj) rfl (by unfold maxLen; omega) (by omega) (by simp; omega) ?_; intro g1 cap1 w2 hown1 hgrow1 hloc1 hlt1; have HH := hid (HALL.out g1 cap1 w2 hown1 hgrow1); have HEE := hid (fun w3 => HEND.out g1 cap1 w2 w3 hgrow1 hloc1); clear hown1 hgrow1 hloc1 hlt1)
                | (go_at_call 23; refine (ih (p ++ [x]) _ s' _ HLV.out HLX.out HH.out.1 HH.out.2.1 HSX.out HH.out.2.2).mono ?_; rintro e w3 ⟨rfl, hj2, ho2, hf2⟩; rw [← HR.out] at hj2 ⊢; have HJ2 := hid hj2; have HE2 := hid (HEE.out w3 ho2 hf2); clear hj2 ho2 hf2)
                | fail)
              go_roundw
              case rel => exact ⟨k + 1, s1, by omega, by go_num, wk_live HL m _ _ _ HLV.out HR.out.symm, HJ2.out, HE2.out.1, HE2.out.2, HEQ.out.trans (wkL_on hlt HST.out (by rw [← HX.out]; exact HR.out.symm))⟩
              case measure => simp [intOf]; omega
            | false =>
              go_wp2_with (first
                | (go_at_call 40; refine (Contains_any _ p x _ HRD.out).mono ?_; rintro e w1 ⟨rfl, rfl⟩; rw [HHB.out])
                | (at_builtin; refine wpList_append_kept _ rfl _ _ 22 rfl M 3 i0 (.int .i64 0) 8 Tryd.underlying22 hi hz0 hz1 hz2 rfl _ _ _ rfl (World.ownsRow.alloc HO.out.row _) ⟨wr.heap.size, 0, none⟩ 1 (.int .i64 x) rfl (fun j y hj => new_cell1 j hj) rfl (by unfold maxLen; omega) (by omega) (by simp; omega) ?_; intro g1 cap1 w2 hown1 hgrow1 hloc1 hlt1; have HH := hid (HALL.out g1 cap1 w2 hown1 hgrow1); have HEE := hid (fun w3 => HEND.out g1 cap1 w2 w3 hgrow1 hloc1); clear hown1 hgrow1 hloc1 hlt1)
                | (go_at_call 23; refine (ih (p ++ [x]) _ s' _ HLV.out HLX.out HH.out.1 HH.out.2.1 HSX.out HH.out.2.2).mono ?_; rintro e w3 ⟨rfl, hj2, ho2, hf2⟩; rw [← HR.out] at hj2 ⊢; have HJ2 := hid hj2; have HE2 := hid (HEE.out w3 ho2 hf2); clear hj2 ho2 hf2)
                | fail)
              go_ret
              have HG := hid (show wk (stopG nr) ws vis (m + 1) p s = (false, s1) from HEQ.out.trans (wkL_off hlt HST.out (by rw [← HX.out]; exact HR.out.symm)))
              rw [HG.out]
              exact ⟨rfl, HJ2.out, HE2.out.1, HE2.out.2⟩
          · obtain ⟨q, hq⟩ : ∃ q, p.length = q + 1 := ⟨p.length - 1, by omega⟩
            have hqp : q < p.length := by omega
            obtain ⟨y, hy⟩ : ∃ y, y = p.getD q 0 := ⟨_, rfl⟩
            have HOY := hid (show ok y by rw [hy]; exact HSM.out q hqp)
            have HFOL := hid (show ∀ b, nr y x = b → folG nr p x = b from fun b hb => by rw [folG, decide_eq_false hp0, Bool.false_or, show p.length - 1 = q by omega, ← hy, hb])
            obtain ⟨g, rfl⟩ : ∃ g, ao = some ⟨g, 0, none⟩ := by
              rcases HO.out.form with ⟨_, hn⟩ | ⟨g, cap, e, _⟩
              · rw [hn] at hq; simp at hq
              · simp only [Value.slice.injEq] at e
                exact ⟨g, e.1⟩
            have hcy : wr.cell? ⟨g, q, none⟩ = some (.int .i64 y) := by
              rcases HO.out.form with ⟨_, hn⟩ | ⟨g', cap, e, _, _, _, _, hcell, _⟩
              · rw [hn] at hq; simp at hq
              · simp only [Value.slice.injEq, Option.some.injEq, Addr.mk.injEq] at e
                obtain ⟨⟨rfl, _, _⟩, _, _⟩ := e
                have hcq := hcell q hqp; rw [Nat.zero_add] at hcq; rw [hcq, hy, getD_at hqp]
            have hp1 : (0 : Int) < (p.length : Int) := by omega
            have hww : IntKind.i64.wrap ((p.length : Int) - 1) = (q : Int) := by rw [show (p.length : Int) - 1 = (q : Int) by omega]; exact IntWalk.i64_in _ (by omega)
            have hwq : IntKind.i64.wrap (q : Int) = (q : Int) := IntWalk.i64_in _ (by omega)
            have e0 : (0 : Int) ≤ (q : Int) := by omega
            have e1 : (q : Int) < (p.length : Int) := by omega
            have hq0 : ¬ (q : Int) < 0 := by omega
            have HQ := hid hq
            clear hp0 hq hy
            cases hnr : nr y x with
            | false =>
              have HNR := hid hnr
              have HST := hid (show stopG nr p ws[k] = true by rw [← HX.out, stopG, hhb, HFOL.out _ hnr]; rfl)
              clear hhb hnr
              go_wp2_with (first
                | (go_at_call 40; refine (Contains_any _ p x _ HRD.out).mono ?_; rintro e w1 ⟨rfl, rfl⟩; rw [HHB.out])
                | (go_at_call 24; refine (HN _ s' y x HJJ.out HOY.out HOX.out).mono ?_; rintro e w1 ⟨rfl, hj1, hb1⟩; rw [HNR.out]; have HJ1 := hid hj1; have HO1 := hid (HO.out.below hb1); have HF1 := hid (HFR.out.trans (Fr.of_below hb1)); have hM1 : M ≤ w1.heap.size := Nat.le_trans hMr hb1.size; clear hj1 hb1)
                | fail)
              go_roundw
              case rel => exact ⟨k + 1, s', by omega, by go_num, HLV.out, HJ1.out, HO1.out, HF1.out, HEQ.out.trans (wkL_skip hlt HST.out)⟩
              case measure => simp [intOf]; omega
            | true =>
              have HNR := hid hnr
              have HST := hid (show stopG nr p ws[k] = false by rw [← HX.out, stopG, hhb, HFOL.out _ hnr]; rfl)
              clear hhb hnr
              obtain ⟨r, hr⟩ : ∃ r, r = wk (stopG nr) ws vis m (p ++ [x]) s' := ⟨_, rfl⟩
              have HR := hid hr
              obtain ⟨b1, s1⟩ := r
              clear hr HW HV
              cases b1 with
              | true =>
                go_wp2_with (first
                  | (go_at_call 40; refine (Contains_any _ p x _ HRD.out).mono ?_; rintro e w1 ⟨rfl, rfl⟩; rw [HHB.out])
                  | (go_at_call 24; refine (HN _ s' y x HJJ.out HOY.out HOX.out).mono ?_; rintro e w1 ⟨rfl, hj1, hb1⟩; rw [HNR.out]; have HJ1 := hid hj1; have HO1 := hid (HO.out.below hb1); have HF1 := hid (HFR.out.trans (Fr.of_below hb1)); have hM1 : M ≤ w1.heap.size := Nat.le_trans hMr hb1.size; have HALL := hid (wk_all (x := x) (fun a b c => HJ a b c s' HLV.out) HJ1.out HO1.out hM1); have HEND := hid (wk_end (x := x) HF1.out HO1.out); clear hj1 hb1)
                  | (at_builtin; refine wpList_append_kept _ rfl _ _ 22 rfl M 3 i0 (.int .i64 0) 8 Tryd.underlying22 hi hz0 hz1 hz2 rfl _ _ _ rfl (World.ownsRow.alloc HO1.out.row _) ⟨w1.heap.size, 0, none⟩ 1 (.int .i64 x) rfl (fun j y hj => new_cell1 j hj) rfl (by unfold maxLen; omega) (by omega) (by simp; omega) ?_; intro g1 cap1 w2 hown1 hgrow1 hloc1 hlt1; have HH := hid (HALL.out g1 cap1 w2 hown1 hgrow1); have HEE := hid (fun w3 => HEND.out g1 cap1 w2 w3 hgrow1 hloc1); clear hown1 hgrow1 hloc1 hlt1)
                  | (go_at_call 23; refine (ih (p ++ [x]) _ s' _ HLV.out HLX.out HH.out.1 HH.out.2.1 HSX.out HH.out.2.2).mono ?_; rintro e w3 ⟨rfl, hj2, ho2, hf2⟩; rw [← HR.out] at hj2 ⊢; have HJ2 := hid hj2; have HE2 := hid (HEE.out w3 ho2 hf2); clear hj2 ho2 hf2)
                  | fail)
                go_roundw
                case rel => exact ⟨k + 1, s1, by omega, by go_num, wk_live HL m _ _ _ HLV.out HR.out.symm, HJ2.out, HE2.out.1, HE2.out.2, HEQ.out.trans (wkL_on hlt HST.out (by rw [← HX.out]; exact HR.out.symm))⟩
                case measure => simp [intOf]; omega
              | false =>
                go_wp2_with (first
                  | (go_at_call 40; refine (Contains_any _ p x _ HRD.out).mono ?_; rintro e w1 ⟨rfl, rfl⟩; rw [HHB.out])
                  | (go_at_call 24; refine (HN _ s' y x HJJ.out HOY.out HOX.out).mono ?_; rintro e w1 ⟨rfl, hj1, hb1⟩; rw [HNR.out]; have HJ1 := hid hj1; have HO1 := hid (HO.out.below hb1); have HF1 := hid (HFR.out.trans (Fr.of_below hb1)); have hM1 : M ≤ w1.heap.size := Nat.le_trans hMr hb1.size; have HALL := hid (wk_all (x := x) (fun a b c => HJ a b c s' HLV.out) HJ1.out HO1.out hM1); have HEND := hid (wk_end (x := x) HF1.out HO1.out); clear hj1 hb1)
                  | (at_builtin; refine wpList_append_kept _ rfl _ _ 22 rfl M 3 i0 (.int .i64 0) 8 Tryd.underlying22 hi hz0 hz1 hz2 rfl _ _ _ rfl (World.ownsRow.alloc HO1.out.row _) ⟨w1.heap.size, 0, none⟩ 1 (.int .i64 x) rfl (fun j y hj => new_cell1 j hj) rfl (by unfold maxLen; omega) (by omega) (by simp; omega) ?_; intro g1 cap1 w2 hown1 hgrow1 hloc1 hlt1; have HH := hid (HALL.out g1 cap1 w2 hown1 hgrow1); have HEE := hid (fun w3 => HEND.out g1 cap1 w2 w3 hgrow1 hloc1); clear hown1 hgrow1 hloc1 hlt1)
                  | (go_at_call 23; refine (ih (p ++ [x]) _ s' _ HLV.out HLX.out HH.out.1 HH.out.2.1 HSX.out HH.out.2.2).mono ?_; rintro e w3 ⟨rfl, hj2, ho2, hf2⟩; rw [← HR.out] at hj2 ⊢; have HJ2 := hid hj2; have HE2 := hid (HEE.out w3 ho2 hf2); clear hj2 ho2 hf2)
                  | fail)
                go_ret
                have HG := hid (show wk (stopG nr) ws vis (m + 1) p s = (false, s1) from HEQ.out.trans (wkL_off hlt HST.out (by rw [← HX.out]; exact HR.out.symm)))
                rw [HG.out]
                exact ⟨rfl, HJ2.out, HE2.out.1, HE2.out.2⟩
      · obtain rfl : k = ws.length := by omega
        clear hown hj hfr heq hlv
        go_wp2_with fail
        go_ret
        have HG := hid (show wk (stopG nr) ws vis (m + 1) p s = (true, s') from HEQ.out.trans wkL_end)
        rw [HG.out]
        exact ⟨rfl, HJJ.out, HO.out, HFR.out⟩
end Go.Proofs.YtijjdidljoicfaaDoor
