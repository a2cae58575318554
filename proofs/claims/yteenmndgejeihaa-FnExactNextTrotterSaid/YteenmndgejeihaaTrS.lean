/- Contract: moTrotter, spec.TrotterAt. Conditions: at most 12 items. -/
import Derived.Test.YteenmndgejeihaaTrM
import Derived.Handy
namespace Go.Proofs.Yteenmndgejeihaa
open Go.RowKit
set_option linter.unusedVariables false
set_option maxRecDepth 4000
theorem wpList_append_noneT {P : Program} (w : World) {ops : Array Oper} {rest : List Oper} {o : Oper} {a : Act} {Q : Exit → Act → World → Prop} (hgd : o.guard = none) (s x : Operand) (t : TypeId)
    (ho : o.op = .call { callee := .builtin .append, args := #[s, x], argTypes := #[t, t] }) (base : Nat) (e : TypeId) (i : TypeInfo) (size : Nat) (ht : P.underlying t = some (.slice e)) (hi : P.info? e = some i)
    (v : Value) (n : Nat) (xs : List Value) (hs : a.eval s = v) (hown : w.ownsRow base e size v n xs) (hx : a.eval x = .slice none 0 0) (h : wpList P ops Q rest (a.put o.dst v) w) : wpList P ops Q (o :: rest) a w := by
  refine wpList_plain hgd fun K hK => ?_
  exact wp_append_none s x t ho base e i size ht hi v n xs hs hown hx (hK _ _ h)
theorem tr_fin0 {w : World} {B : Nat} {v : Value} {l : List Int} {x : Int} {k : Nat} (hd : l.drop k = []) (h : w.ownsRow B 3 1 v ((l.take k ++ [x]).length + 0) ((l.take k ++ [x]).map (Value.int .i64) ++ [])) : Own w B v (l.take k ++ (x :: l.drop k)) := by
  rw [hd]
  unfold Own
  simpa using h
theorem tr_fin {w : World} {B : Nat} {v : Value} {l : List Int} {x : Int} {k n : Nat} (hn : n = l.length) (h : w.ownsRow B 3 1 v ((l.take k ++ [x]).length + (n - k)) ((l.take k ++ [x]).map (Value.int .i64) ++ (l.drop k).map (Value.int .i64))) : Own w B v (l.take k ++ (x :: l.drop k)) := by
  unfold Own
  have e1 : (l.take k ++ (x :: l.drop k)).length = (l.take k ++ [x]).length + (n - k) := by simp; omega
  have e2 : (l.take k ++ (x :: l.drop k)).map (Value.int .i64) = (l.take k ++ [x]).map (Value.int .i64) ++ (l.drop k).map (Value.int .i64) := by simp
  rw [e1, e2]
  exact h
theorem tr_src {w : World} {g k : Nat} {l : List Int} (h : ∀ t, t < l.length → w.cell? ⟨g, t, none⟩ = some (.int .i64 (l.getD t 0))) : ∀ j v, ((l.drop k).map (Value.int .i64))[j]? = some v → w.cell? ((⟨g, k, none⟩ : Addr).add j) = some v := by
  refine Sits.src (n := 0) (c := 0) (fun i hi => ?_)
  have hi' : k + i < l.length := by simp at hi; omega
  rw [h (k + i) hi', List.getElem_drop, getD_at hi']
theorem l1Own_nilT (w : World) : Calls Try.prog 111 #[.slice none 0 0] w fun e w' => ∃ u, e = .returned u ∧ Own w' w.heap.size u [] ∧ Below w.heap.size w w' := by
  obtain ⟨i0, hi, hz0, hz1, hz2⟩ := info_parts Try.info3
  have HE := hid (show (w.alloc (.cells #[] 3)).ownsRow w.heap.size 3 1 (.slice (some ⟨w.heap.size, 0, none⟩) 0 0) 0 [] from World.ownsRow_made w #[] 0 (Nat.le_refl _) (by unfold maxLen; omega) rfl)
  have HB := hid ((Below.refl w.heap.size w).alloc (Nat.le_refl _) (.cells #[] 3))
  go_enter Try.func111, Try.ntmps111
  go_wp2_with (first | (at_builtin; refine wpList_append_noneT _ rfl _ _ 22 rfl w.heap.size 3 i0 1 Try.underlying22 hi _ _ _ rfl HE.out rfl ?_) | fail)
  go_ret
  exact ⟨_, rfl, HE.out, HB.out⟩
theorem tr_src2 {W : World} {g k cap n : Nat} {l : List Int} {ad : Addr} (hn : l.length = n) (hcap : n ≤ cap) (h : ∀ t, t < l.length → W.cell? ⟨g, t, none⟩ = some (.int .i64 (l.getD t 0)))
    (had : (if cap = k then some (⟨g, 0, none⟩ : Addr) else some ⟨g, k, none⟩) = some ad) (hg : g < W.heap.size) : ∀ w', Below W.heap.size W w' → ∀ j v, ((l.drop k).map (Value.int .i64))[j]? = some v → w'.cell? (ad.add j) = some v := by
  intro w' hb
  by_cases hc : cap = k
  · intro j v hj
    rw [List.drop_eq_nil_of_le (by omega)] at hj
    simp at hj
  · rw [if_neg hc, Option.some.injEq] at had
    subst had
    exact tr_src (fun t ht => (hb.cell (p := ⟨g, t, none⟩) hg).trans (h t ht))
theorem moTrotter_one (r : Nat) (w : World) (hr : r ≤ 1000000000) :
    Calls Try.prog 65 #[.int .i64 ((0 + 1 : Nat) : Int), .int .i64 (r : Int)] w fun e w' => ∃ u, e = .returned u ∧ Own w' w.heap.size u (trL (0 + 1) r) ∧ Below w.heap.size w w' := by
  obtain ⟨i0, hi, hz0, hz1, hz2⟩ := info_parts Try.info3
  have HT := hid (show trL (0 + 1) r = [0] by simp [trL])
  have hw : wrap64 (r : Int) = (r : Int) := IntWalk.wrap64_in _ (by omega)
  have hC : ∀ W : World, Calls Try.prog 65 #[.int .i64 0, .int .i64 (r : Int)] W (fun e w' => e = .returned (.slice none 0 0) ∧ w' = W) := fun W => by
    go_enter Try.func65, Try.ntmps65
    go_wp2_with fail
    go_returns
    exact ⟨rfl, rfl⟩
  have HC := hid hC
  clear hC
  rw [HT.out]
  show Calls Try.prog 65 #[.int .i64 1, .int .i64 (r : Int)] w _
  by_cases hpar : r % 2 = 0
  all_goals
    have hp : ((r : Int) % 2 == 0) = decide (r % 2 = 0) := by
      rw [Bool.eq_iff_iff]; simp; omega
    first | rw [decide_eq_true hpar] at hp | rw [decide_eq_false hpar] at hp
    clear hpar
    go_enter Try.func65, Try.ntmps65
    go_wp2_with (first | (go_at_call 65; refine (HC.out _).mono ?_; rintro e w1 ⟨rfl, rfl⟩) | (go_at_call 111; refine (l1Own_nilT _).mono ?_; rintro e w2 ⟨u2, rfl, ho2, hb2⟩; have HO2 := hid ho2; have HBL := hid hb2; have hs12 := hb2.size; clear ho2 hb2) | (at_builtin; refine wpList_append_own _ rfl _ _ 22 rfl w1.heap.size 3 i0 (.int .i64 0) 1 8 Try.underlying22 hi hz0 hz1 hz2 rfl (by decide) _ _ _ rfl (World.ownsRow.alloc HO2.out.row _) ⟨w2.heap.size, 0, none⟩ 1 1 [.int .i64 0] rfl rfl (fun j y hj => new_cell1 j hj) (ints_one [0]) (by unfold maxLen; simp <;> omega) (by simp <;> omega) (by simp <;> omega) ?_; intro v3 w3 hown3 hgrow3 hn3; have HO3 := hid (Own.snoc hown3); have HBZ := hid ((HBL.out.alloc (by omega) (.cells #[.int .i64 0] 3)).grown hgrow3 (by simp <;> omega) (fun q hq => (World.ownsRow.lt HO2.out q hq).1)); have hs3 := HBZ.out.size; have HOW := hid HO3.out.row; clear hown3 hgrow3 hn3) | (at_builtin; refine wpList_append_noneT _ rfl _ _ 22 rfl w1.heap.size 3 i0 1 Try.underlying22 hi _ _ _ rfl HOW.out rfl ?_) | fail)
    go_ret
    exact ⟨_, rfl, HO3.out.mono (by omega), HBZ.out⟩
set_option maxHeartbeats 1000000 in
theorem moTrotter_any : ∀ (n r : Nat) (w : World), n ≤ 12 → r ≤ 1000000000 →
    Calls Try.prog 65 #[.int .i64 (n : Int), .int .i64 (r : Int)] w fun e w' => ∃ u, e = .returned u ∧ Own w' w.heap.size u (trL n r) ∧ Below w.heap.size w w'
  | 0, r, w, _, _ => by
    go_enter Try.func65, Try.ntmps65
    go_wp2_with fail
    go_returns
    exact ⟨_, rfl, Own.nil _ _, Below.refl _ _⟩
  | n + 1, r, w, hn, hr => by
    by_cases hnz : n = 0
    · subst hnz
      exact moTrotter_one r w hr
    have HNZ := hid hnz
    clear hnz
    obtain ⟨i0, hi, hz0, hz1, hz2⟩ := info_parts Try.info3
    have IH := hid (moTrotter_any n (r / (n + 1)))
    have e1 : ((n + 1 : Nat) : Int) = (n : Int) + 1 := by omega
    have ew : IntKind.i64.wrap ((n : Int) + 1 - 1) = (n : Int) := by rw [show (n : Int) + 1 - 1 = (n : Int) by omega]; exact IntWalk.i64_in _ (by omega)
    have hne : ((n : Int) + 1 == 0) = false := by simp; omega
    have hTL := trL_len n (r / (n + 1))
    have hAL := trAt_le n r
    have hTR : trL (n + 1) r = (trL n (r / (n + 1))).take (trAt n r) ++ ((n : Int) :: (trL n (r / (n + 1))).drop (trAt n r)) := rfl
    have hML := Nat.mod_lt r (show 0 < n + 1 by omega)
    have hqr : r / (n + 1) ≤ r := Nat.div_le_self _ _
    have hAT : trAt n r = if r / (n + 1) % 2 = 0 then n - r % (n + 1) else r % (n + 1) := rfl
    obtain ⟨q, hq⟩ : ∃ q, q = r / (n + 1) := ⟨_, rfl⟩
    obtain ⟨m, hm⟩ : ∃ m, m = r % (n + 1) := ⟨_, rfl⟩
    have hq1 : (r : Int) / ((n : Int) + 1) = (q : Int) := by rw [hq]; simp
    have hm1 : (r : Int) % ((n : Int) + 1) = (m : Int) := by rw [hm]; simp
    have hq2 : wrap64 (q : Int) = (q : Int) := IntWalk.wrap64_in _ (by omega)
    have hn1 : ¬ (n : Int) + 1 = 0 := by omega
    rw [← hq] at IH hTL hTR hAT hqr
    rw [← hm] at hML hAT
    obtain ⟨at_, hat⟩ : ∃ a, a = trAt n r := ⟨_, rfl⟩
    rw [← hat] at hTR hAL hAT
    obtain ⟨l, hl⟩ : ∃ l, l = trL n q := ⟨_, rfl⟩
    rw [← hl] at hTR hTL
    have HLL := hid hl
    have HTR := hid hTR
    have HAT := hid hAT
    rw [HTR.out]
    clear hq hm hat hl hTR hAT
    rw [e1]
    clear e1
    by_cases hpar : q % 2 = 0
    · have hp1 : (q : Int) % 2 = 0 := by omega
      have ha := HAT.out
      rw [if_pos hpar] at ha
      have hw3 : IntKind.i64.wrap ((n : Int) - (m : Int)) = (at_ : Int) := by rw [show (n : Int) - (m : Int) = (at_ : Int) by omega]; exact IntWalk.i64_in _ (by omega)
      clear hpar ha
      go_enter Try.func65, Try.ntmps65
      go_wp2_with fail
      refine (IH.out _ (by omega) (by omega)).mono ?_
      rintro e w1 ⟨u1, rfl, ho1, hb1⟩
      rw [← HLL.out] at ho1
      have HB1 := hid hb1
      have hs1 := hb1.size
      have hnz := HNZ.out
      rcases ho1.form with ⟨rfl, hnil⟩ | ⟨g, cap, rfl, hg, hglt, hg1, hg2, hgc, hgf⟩
      · exact absurd hTL (by rw [hnil]; simp; omega)
      · have HRT := hid (Sits_take (w := w1) (b := g) (off := 0) (c := cap) (xs := l) at_ (by omega) (by omega) (by unfold maxLen at hg2; omega) hglt (fun t ht => by rw [hgc t ht, getD_at ht]))
        have HGC := hid (show ∀ t, t < l.length → w1.cell? ⟨g, t, none⟩ = some (.int .i64 (l.getD t 0)) from fun t ht => by have := hgc t ht; rwa [Nat.zero_add] at this)
        have q1 : (0 : Int) ≤ (at_ : Int) := by omega
        have q2 : (at_ : Int) ≤ (cap : Int) := by omega
        have q3 : (at_ : Int) ≤ (n : Int) := by omega
        have q4 : (n : Int) ≤ (cap : Int) := by omega
        clear ho1 hb1 hgc hgf
        have HDL := hid (show ((l.drop at_).map (Value.int .i64)).length = (n - at_) * 1 by simp; omega)
        obtain ⟨ad, had⟩ : ∃ ad : Addr, (if cap = at_ then some (⟨g, 0, none⟩ : Addr) else some ⟨g, at_, none⟩) = some ad := by split <;> exact ⟨_, rfl⟩
        have HAD := hid (show Value.slice (if cap = at_ then some (⟨g, 0, none⟩ : Addr) else some ⟨g, at_, none⟩) (n - at_) (cap - at_) = .slice (some ad) (n - at_) (cap - at_) by rw [had])
        have HSRC := hid (tr_src2 (W := w1) (l := l) (n := n) hTL (by omega) HGC.out had hglt)
        clear had
        go_wp2_with (first | (go_at_call 111; refine (l1Own_any _ (l.take at_) _ HRT.out (by simp <;> omega)).mono ?_; rintro e w2 ⟨u2, rfl, ho2, hb2, hn2⟩; have HO2 := hid ho2; have HB2 := hid (Below_chain HB1.out hb2); have hs2 := HB2.out.size; have HBL := hid hb2; have hs12 := hb2.size; clear ho2 hb2 hn2) | (at_builtin; refine wpList_append_own _ rfl _ _ 22 rfl w1.heap.size 3 i0 (.int .i64 0) 1 8 Try.underlying22 hi hz0 hz1 hz2 rfl (by decide) _ _ _ rfl (World.ownsRow.alloc HO2.out.row _) ⟨w2.heap.size, 0, none⟩ 1 1 [.int .i64 (n : Int)] rfl rfl (fun j y hj => new_cell1 j hj) (ints_one [(n : Int)]) (by unfold maxLen; simp <;> omega) (by simp <;> omega) (by simp <;> omega) ?_; intro v3 w3 hown3 hgrow3 hn3; have HO3 := hid (Own.snoc hown3); have HBZ := hid ((HBL.out.alloc (by omega) (.cells #[.int .i64 (n : Int)] 3)).grown hgrow3 (by simp <;> omega) (fun q hq => (World.ownsRow.lt HO2.out q hq).1)); have hs3 := HBZ.out.size; have HOW := hid HO3.out.row; clear hown3 hgrow3 hn3) | (at_builtin; refine wpList_append_own _ rfl _ _ 22 rfl w1.heap.size 3 i0 (.int .i64 0) 1 8 Try.underlying22 hi hz0 hz1 hz2 rfl (by decide) _ _ _ rfl HOW.out ad (n - at_) (cap - at_) ((l.drop at_).map (Value.int .i64)) HAD.out HDL.out (HSRC.out _ HBZ.out) (ints_one _) (by unfold maxLen; simp <;> omega) (by simp <;> omega) hs3 ?_; intro v4 w4 hown4 hgrow4 hn4; have HO4 := hid (tr_fin (by omega) hown4); have HBY := hid (HBZ.out.grown hgrow4 hs3 (fun q hq => (World.ownsRow.lt HOW.out q hq).1)); clear hown4 hgrow4 hn4) | fail)
        go_ret
        all_goals first | exact ⟨_, rfl, HO4.out.mono (by omega), Below_chain HB1.out HBY.out⟩ | (go_ret; exact ⟨_, rfl, HO4.out.mono (by omega), Below_chain HB1.out HBY.out⟩)
    · have hp1 : (q : Int) % 2 = 1 := by omega
      have ha := HAT.out
      rw [if_neg hpar] at ha
      rw [← ha] at hm1
      clear hpar ha hML
      go_enter Try.func65, Try.ntmps65
      go_wp2_with fail
      refine (IH.out _ (by omega) (by omega)).mono ?_
      rintro e w1 ⟨u1, rfl, ho1, hb1⟩
      rw [← HLL.out] at ho1
      have HB1 := hid hb1
      have hs1 := hb1.size
      have hnz := HNZ.out
      rcases ho1.form with ⟨rfl, hnil⟩ | ⟨g, cap, rfl, hg, hglt, hg1, hg2, hgc, hgf⟩
      · exact absurd hTL (by rw [hnil]; simp; omega)
      · have HRT := hid (Sits_take (w := w1) (b := g) (off := 0) (c := cap) (xs := l) at_ (by omega) (by omega) (by unfold maxLen at hg2; omega) hglt (fun t ht => by rw [hgc t ht, getD_at ht]))
        have HGC := hid (show ∀ t, t < l.length → w1.cell? ⟨g, t, none⟩ = some (.int .i64 (l.getD t 0)) from fun t ht => by have := hgc t ht; rwa [Nat.zero_add] at this)
        have q1 : (0 : Int) ≤ (at_ : Int) := by omega
        have q2 : (at_ : Int) ≤ (cap : Int) := by omega
        have q3 : (at_ : Int) ≤ (n : Int) := by omega
        have q4 : (n : Int) ≤ (cap : Int) := by omega
        clear ho1 hb1 hgc hgf
        have HDL := hid (show ((l.drop at_).map (Value.int .i64)).length = (n - at_) * 1 by simp; omega)
        obtain ⟨ad, had⟩ : ∃ ad : Addr, (if cap = at_ then some (⟨g, 0, none⟩ : Addr) else some ⟨g, at_, none⟩) = some ad := by split <;> exact ⟨_, rfl⟩
        have HAD := hid (show Value.slice (if cap = at_ then some (⟨g, 0, none⟩ : Addr) else some ⟨g, at_, none⟩) (n - at_) (cap - at_) = .slice (some ad) (n - at_) (cap - at_) by rw [had])
        have HSRC := hid (tr_src2 (W := w1) (l := l) (n := n) hTL (by omega) HGC.out had hglt)
        clear had
        go_wp2_with (first | (go_at_call 111; refine (l1Own_any _ (l.take at_) _ HRT.out (by simp <;> omega)).mono ?_; rintro e w2 ⟨u2, rfl, ho2, hb2, hn2⟩; have HO2 := hid ho2; have HB2 := hid (Below_chain HB1.out hb2); have hs2 := HB2.out.size; have HBL := hid hb2; have hs12 := hb2.size; clear ho2 hb2 hn2) | (at_builtin; refine wpList_append_own _ rfl _ _ 22 rfl w1.heap.size 3 i0 (.int .i64 0) 1 8 Try.underlying22 hi hz0 hz1 hz2 rfl (by decide) _ _ _ rfl (World.ownsRow.alloc HO2.out.row _) ⟨w2.heap.size, 0, none⟩ 1 1 [.int .i64 (n : Int)] rfl rfl (fun j y hj => new_cell1 j hj) (ints_one [(n : Int)]) (by unfold maxLen; simp <;> omega) (by simp <;> omega) (by simp <;> omega) ?_; intro v3 w3 hown3 hgrow3 hn3; have HO3 := hid (Own.snoc hown3); have HBZ := hid ((HBL.out.alloc (by omega) (.cells #[.int .i64 (n : Int)] 3)).grown hgrow3 (by simp <;> omega) (fun q hq => (World.ownsRow.lt HO2.out q hq).1)); have hs3 := HBZ.out.size; have HOW := hid HO3.out.row; clear hown3 hgrow3 hn3) | (at_builtin; refine wpList_append_own _ rfl _ _ 22 rfl w1.heap.size 3 i0 (.int .i64 0) 1 8 Try.underlying22 hi hz0 hz1 hz2 rfl (by decide) _ _ _ rfl HOW.out ad (n - at_) (cap - at_) ((l.drop at_).map (Value.int .i64)) HAD.out HDL.out (HSRC.out _ HBZ.out) (ints_one _) (by unfold maxLen; simp <;> omega) (by simp <;> omega) hs3 ?_; intro v4 w4 hown4 hgrow4 hn4; have HO4 := hid (tr_fin (by omega) hown4); have HBY := hid (HBZ.out.grown hgrow4 hs3 (fun q hq => (World.ownsRow.lt HOW.out q hq).1)); clear hown4 hgrow4 hn4) | fail)
        go_ret
        all_goals first | exact ⟨_, rfl, HO4.out.mono (by omega), Below_chain HB1.out HBY.out⟩ | (go_ret; exact ⟨_, rfl, HO4.out.mono (by omega), Below_chain HB1.out HBY.out⟩)
end Go.Proofs.Yteenmndgejeihaa
