/- Contract: walk with the visitor of PathThrough. Conditions: the words are below 1024; what the visitor keeps is kept by appends to other rows. -/
import Derived.Test.YtibejgdihbbbaabDoorWalk1
namespace Go.Proofs.YtibejgdihbbbaabDoor
open Go.RowKit
set_option linter.unusedVariables false

theorem wlk_live {σ : Type} {ws : List Int} {vis : List Int → σ → Bool × σ} {live : σ → Prop} (HL : ∀ p s s1, live s → vis p s = (true, s1) → live s1) : ∀ (m : Nat) (p : List Int) (s s1 : σ), live s → wlk ws vis m p s = (true, s1) → live s1 := by
  intro m
  induction m with
  | zero => intro p s s1 h e; exact HL p s s1 h e
  | succ m ih =>
    intro p s s1 h e
    rw [wlk] at e
    have key : ∀ (vs : List Int) (s : σ), live s → wlkL (wlk ws vis m) p vs s = (true, s1) → live s1 := by
      intro vs
      induction vs with
      | nil => intro s h e; simp only [wlkL, Prod.mk.injEq, true_and] at e; rw [← e]; exact h
      | cons x t iht =>
        intro s h e
        rw [wlkL] at e
        split at e
        · exact iht s h e
        · obtain ⟨r, hr⟩ : ∃ r, r = wlk ws vis m (p ++ [x]) s := ⟨_, rfl⟩
          rw [← hr] at e
          obtain ⟨b, s2⟩ := r
          cases b with
          | true => exact iht s2 (ih _ _ _ h hr.symm) (by simpa using e)
          | false => simp at e
    exact key ws s h e
set_option maxHeartbeats 2000000 in
theorem walk_PathThrough {σ : Type} (ws : List Int) (vis : List Int → σ → Bool × σ) (J : World → σ → Prop) (M gw ow cw : Nat) (A1 : Addr)
    (hws : ∀ i (hi : i < ws.length), 0 ≤ ws[i] ∧ ws[i] < 1024) (hpos : 0 < ws.length) (hlen : ws.length ≤ 1024)
    (live : σ → Prop) (HL : ∀ p s s1, live s → vis p s = (true, s1) → live s1)
    (HJ : ∀ w w' row s, live s → J w s → w.grownBy w' row → (∀ k, row = some k → M ≤ k) → J w' s)
    (HW : ∀ w s, J w s → TZ w ∧ Sits w (.slice (some ⟨gw, ow, none⟩) ws.length cw) ws)
    (HV : ∀ w s g cap p, J w s → Own w M (.slice (some ⟨g, 0, none⟩) p.length cap) p → p.length = ws.length → small p → M ≤ w.heap.size →
      Calls Tryd.prog 24 #[.slice (some ⟨g, 0, none⟩) p.length cap, .pointer (some A1)] w fun e w' => e = .returned (.bool (vis p s).1) ∧ J w' (vis p s).2 ∧ Fr M none w w') :
    ∀ (m : Nat) (p : List Int) (v : Value) (s : σ) (w : World), live s → p.length + m = ws.length → Own w M v p → J w s → small p → M ≤ w.heap.size →
      Calls Tryd.prog 23 #[.slice (some ⟨gw, ow, none⟩) ws.length cw, v, .func (.func 24) #[] #[.pointer (some A1)]] w fun e w' =>
        e = .returned (.bool (wlk ws vis m p s).1) ∧ J w' (wlk ws vis m p s).2 ∧ Own w' M v p ∧ Fr M v.ownBlock w w' := by
  intro m
  induction m with
  | zero =>
    intro p v s w hlive hpm hown hj hsm hM
    rcases hown.form with ⟨_, h0⟩ | ⟨g, cap, rfl, hgM, hglt, _⟩
    · rw [h0] at hpm; simp at hpm; omega
    · have hbb : ((p.length : Int) == (ws.length : Int)) = true := by have : p.length = ws.length := by omega
                                                                      rw [this]; simp
      have HPL := hid (show p.length = ws.length by omega)
      have HO := hid hown
      have HJJ := hid hj
      clear hpm hown hj
      obtain ⟨r, hr⟩ : ∃ r, r = vis p s := ⟨_, rfl⟩
      have HR := hid hr
      have HG := hid (show wlk ws vis 0 p s = r from hr.symm)
      obtain ⟨b1, s1⟩ := r
      clear hr
      go_enter Tryd.func23, Tryd.ntmps23
      go_wp2_with (first | (go_at_call 24; refine (HV _ s g cap p HJJ.out HO.out HPL.out hsm hM).mono ?_; rintro e w1 ⟨rfl, hj1, hf1⟩; rw [← HR.out] at hj1 ⊢; have HJ1 := hid hj1; have HF1 := hid hf1; clear hj1 hf1) | fail)
      go_ret
      rw [HG.out]
      exact ⟨rfl, HJ1.out, HO.out.fr HF1.out (.inr (by simp [Value.ownBlock])), HF1.out.any⟩
  | succ m ih =>
    intro p v s w hlive hpm hown hj hsm hM
    obtain ⟨i0, hi, hz0, hz1, hz2⟩ := info_parts Tryd.info3
    have hlow := World.ownsRow.lt hown
    obtain ⟨ao, c, hv⟩ : ∃ ao c, v = .slice ao p.length c := by
      rcases hown.form with ⟨rfl, rfl⟩ | ⟨g, cap, rfl, _⟩
      · exact ⟨none, 0, rfl⟩
      · exact ⟨_, _, rfl⟩
    subst hv
    have hbb : ((p.length : Int) == (ws.length : Int)) = false := beq_false_of_ne (by omega)
    have hpl : p.length ≤ 1024 := by omega
    have HPM := hid hpm
    have HO0 := hid hown
    have HJ0 := hid hj
    have HSM := hid hsm
    have HLOW := hid hlow
    have HLIVE := hid hlive
    clear hpm hown hj hsm hlow hlive
    go_enter Tryd.func23, Tryd.ntmps23
    go_wp2_with fail
    go_loopw [8, 19] (fun _ i wr => ∃ (k : Nat) (s' : σ), k ≤ ws.length ∧ i = .int .i64 k ∧ live s' ∧ J wr s' ∧ Own wr M (.slice ao p.length c) p ∧ Fr M (Value.ownBlock (.slice ao p.length c)) w wr ∧ wlkL (wlk ws vis m) p ws s = wlkL (wlk ws vis m) p (ws.drop k) s') (fun _ i _ => ws.length - (intOf i).toNat)
    case atStart => exact ⟨0, s, Nat.zero_le _, rfl, HLIVE.out, HJ0.out, HO0.out, Fr.refl _ _ _, rfl⟩
    case round =>
      obtain ⟨k, s', hk, rfl, hlv, hj, hown, hfr, heq⟩ := hrel
      have HLV := hid hlv
      have HO := hid hown
      have HJJ := hid hj
      have HFR := hid hfr
      have HEQ := hid heq
      have hMr : M ≤ wr.heap.size := Nat.le_trans hM hfr.size
      have HRD := hid hown.reads
      have HTZ := hid (HW _ _ hj).1
      by_cases hlt : k < ws.length
      · have hcx := (Sits.at' (HW _ _ hj).2).2 k hlt
        obtain ⟨x, hx⟩ : ∃ x, x = ws[k] := ⟨_, rfl⟩
        have hx2 := hws k hlt
        have HX := hid hx
        rw [← hx] at hcx hx2
        clear hown hj hfr heq hx hlv
        cases hhb : hasB p x with
        | true =>
          have HHB := hid hhb
          have HST := hid (show stopB p ws[k] = true by rw [← HX.out, stopB, hhb]; rfl)
          clear hhb
          go_wp2_with (first
            | (go_at_call 40; refine (Contains_any _ p x _ HRD.out).mono ?_; rintro e w1 ⟨rfl, rfl⟩; rw [HHB.out])
            | fail)
          go_roundw
          case rel => exact ⟨k + 1, s', by omega, by go_num, HLV.out, HJJ.out, HO.out, HFR.out, HEQ.out.trans (wlkL_skip hlt HST.out)⟩
          case measure => simp [intOf]; omega
        | false =>
          have HHB := hid hhb
          cases hfb : folB p x with
          | false =>
            have HFB := hid hfb
            have HST := hid (show stopB p ws[k] = true by rw [← HX.out, stopB, hhb, hfb]; rfl)
            clear hhb hfb
            go_wp2_with (first
              | (go_at_call 40; refine (Contains_any _ p x _ HRD.out).mono ?_; rintro e w1 ⟨rfl, rfl⟩; rw [HHB.out])
              | (go_at_call 28; refine (canFollow_any _ p x _ HRD.out HSM.out hx2 HTZ.out).mono ?_; rintro e w1 ⟨rfl, rfl⟩; rw [HFB.out])
              | fail)
            go_roundw
            case rel => exact ⟨k + 1, s', by omega, by go_num, HLV.out, HJJ.out, HO.out, HFR.out, HEQ.out.trans (wlkL_skip hlt HST.out)⟩
            case measure => simp [intOf]; omega
          | true =>
            have HFB := hid hfb
            have HST := hid (show stopB p ws[k] = false by rw [← HX.out, stopB, hhb, hfb]; rfl)
            clear hhb hfb
            obtain ⟨r, hr⟩ : ∃ r, r = wlk ws vis m (p ++ [x]) s' := ⟨_, rfl⟩
            have HR := hid hr
            obtain ⟨b1, s1⟩ := r
            clear hr
            have HSX := hid (show small (p ++ [x]) from fun i hi => by
              by_cases h : i < p.length
              · obtain ⟨y, e, hy⟩ := HSM.out i h
                exact ⟨y, by rw [← e]; simp [List.getD_eq_getElem?_getD, List.getElem?_append_left h], hy⟩
              · have hi2 : i = p.length := by simp at hi; omega
                subst hi2
                exact ⟨x.toNat, by simp [List.getD_eq_getElem?_getD]; omega, by omega⟩)
            have HLX := hid (show (p ++ [x]).length + m = ws.length by have := HPM.out; simp; omega)
            have HALL := hid (show ∀ g1 cap1 w1, w1.ownsRow M 3 1 (.slice (some ⟨g1, 0, none⟩) (p.length + 1) cap1) (p.length + 1) (p.map (Value.int .i64) ++ [.int .i64 x]) →
                (wr.alloc (.cells #[.int .i64 x] 3)).grownBy w1 (Value.ownBlock (.slice ao p.length c)) → Own w1 M (.slice (some ⟨g1, 0, none⟩) (p.length + 1) cap1) (p ++ [x]) ∧ J w1 s' ∧ M ≤ w1.heap.size from fun g1 cap1 w1 h1 h2 =>
              ⟨Own.snoc h1, HJ _ _ _ _ HLV.out (HJ _ _ none _ HLV.out HJJ.out (World.grownBy_alloc wr _ none) (fun k hk => by cases hk)) h2 (fun k hk => (HLOW.out k hk).1), by have := h2.size; simp at this; omega⟩)
            have HEND := hid (show ∀ g1 cap1 w1 w2, (wr.alloc (.cells #[.int .i64 x] 3)).grownBy w1 (Value.ownBlock (.slice ao p.length c)) →
                ((.slice ao p.length c : Value) = .slice (some ⟨g1, 0, none⟩) p.length cap1 ∨ (g1 = (wr.alloc (.cells #[.int .i64 x] 3)).heap.size ∧ (wr.alloc (.cells #[.int .i64 x] 3)).grownBy w1 none)) →
                Own w2 M (.slice (some ⟨g1, 0, none⟩) (p.length + 1) cap1) (p ++ [x]) → Fr M (some g1) w1 w2 → Own w2 M (.slice ao p.length c) p ∧ Fr M (Value.ownBlock (.slice ao p.length c)) w w2 from by
              intro g1 cap1 w1 w2 hg hloc ho2 hf2
              have hal : Fr M (Value.ownBlock (.slice ao p.length c)) wr (wr.alloc (.cells #[.int .i64 x] 3)) := Fr.of_grown (World.grownBy_alloc wr _ _)
              have hf1 : Fr M (Value.ownBlock (.slice ao p.length c)) w w1 := (HFR.out.trans hal).trans (Fr.of_grown hg)
              have hsz := HFR.out.size
              rcases hloc with e | ⟨e, hg0⟩
              · rw [e] at hf1 ⊢
                exact ⟨ho2.before, hf1.fresh hf2 (.inl rfl)⟩
              · refine ⟨?_, hf1.fresh hf2 (.inr (by rw [e]; simp; omega))⟩
                have h1 : Own w1 M (.slice ao p.length c) p := (HO.out.fr (row := none) (Fr.of_grown (World.grownBy_alloc wr _ none)) (by cases ao <;> simp [Value.ownBlock])).fr (Fr.of_grown hg0) (by cases ao <;> simp [Value.ownBlock])
                refine h1.fr hf2 ?_
                cases hob : Value.ownBlock (.slice ao p.length c) with
                | none => exact .inl rfl
                | some q =>
                  right
                  have := (World.ownsRow.lt HO.out q hob).2
                  rw [e]
                  simp
                  omega)
            clear HW HV
            cases b1 with
            | true =>
              go_wp2_with (first
                | (go_at_call 40; refine (Contains_any _ p x _ HRD.out).mono ?_; rintro e w1 ⟨rfl, rfl⟩; rw [HHB.out])
                | (go_at_call 28; refine (canFollow_any _ p x _ HRD.out HSM.out hx2 HTZ.out).mono ?_; rintro e w1 ⟨rfl, rfl⟩; rw [HFB.out])
                | (at_builtin; refine wpList_append_kept _ rfl _ _ 22 rfl M 3 i0 (.int .i64 0) 8 Tryd.underlying22 hi hz0 hz1 hz2 rfl _ _ _ rfl (World.ownsRow.alloc HO.out.row _) ⟨wr.heap.size, 0, none⟩ 1 (.int .i64 x) rfl (fun j y hj => new_cell1 j hj) rfl (by unfold maxLen; omega) (by omega) (by simp; omega) ?_; intro g1 cap1 w1 hown1 hgrow1 hloc1 hlt1; have HH := hid (HALL.out g1 cap1 w1 hown1 hgrow1); have HEE := hid (fun w2 => HEND.out g1 cap1 w1 w2 hgrow1 hloc1); clear hown1 hgrow1 hloc1 hlt1)
                | (go_at_call 23; refine (ih (p ++ [x]) _ s' _ HLV.out HLX.out HH.out.1 HH.out.2.1 HSX.out HH.out.2.2).mono ?_; rintro e w2 ⟨rfl, hj2, ho2, hf2⟩; rw [← HR.out] at hj2 ⊢; have HJ2 := hid hj2; have HE2 := hid (HEE.out w2 ho2 hf2); clear hj2 ho2 hf2)
                | fail)
              go_roundw
              case rel => exact ⟨k + 1, s1, by omega, by go_num, wlk_live HL m _ _ _ HLV.out HR.out.symm, HJ2.out, HE2.out.1, HE2.out.2, HEQ.out.trans (wlkL_on hlt HST.out (by rw [← HX.out]; exact HR.out.symm))⟩
              case measure => simp [intOf]; omega
            | false =>
              go_wp2_with (first
                | (go_at_call 40; refine (Contains_any _ p x _ HRD.out).mono ?_; rintro e w1 ⟨rfl, rfl⟩; rw [HHB.out])
                | (go_at_call 28; refine (canFollow_any _ p x _ HRD.out HSM.out hx2 HTZ.out).mono ?_; rintro e w1 ⟨rfl, rfl⟩; rw [HFB.out])
                | (at_builtin; refine wpList_append_kept _ rfl _ _ 22 rfl M 3 i0 (.int .i64 0) 8 Tryd.underlying22 hi hz0 hz1 hz2 rfl _ _ _ rfl (World.ownsRow.alloc HO.out.row _) ⟨wr.heap.size, 0, none⟩ 1 (.int .i64 x) rfl (fun j y hj => new_cell1 j hj) rfl (by unfold maxLen; omega) (by omega) (by simp; omega) ?_; intro g1 cap1 w1 hown1 hgrow1 hloc1 hlt1; have HH := hid (HALL.out g1 cap1 w1 hown1 hgrow1); have HEE := hid (fun w2 => HEND.out g1 cap1 w1 w2 hgrow1 hloc1); clear hown1 hgrow1 hloc1 hlt1)
                | (go_at_call 23; refine (ih (p ++ [x]) _ s' _ HLV.out HLX.out HH.out.1 HH.out.2.1 HSX.out HH.out.2.2).mono ?_; rintro e w2 ⟨rfl, hj2, ho2, hf2⟩; rw [← HR.out] at hj2 ⊢; have HJ2 := hid hj2; have HE2 := hid (HEE.out w2 ho2 hf2); clear hj2 ho2 hf2)
                | fail)
              go_ret
              have HG := hid (show wlk ws vis (m + 1) p s = (false, s1) from HEQ.out.trans (wlkL_off hlt HST.out (by rw [← HX.out]; exact HR.out.symm)))
              rw [HG.out]
              exact ⟨rfl, HJ2.out, HE2.out.1, HE2.out.2⟩
      · obtain rfl : k = ws.length := by omega
        clear hown hj hfr heq hlv
        go_wp2_with fail
        go_ret
        have HG := hid (show wlk ws vis (m + 1) p s = (true, s') from HEQ.out.trans wlkL_end)
        rw [HG.out]
        exact ⟨rfl, HJJ.out, HO.out, HFR.out⟩
end Go.Proofs.YtibejgdihbbbaabDoor
