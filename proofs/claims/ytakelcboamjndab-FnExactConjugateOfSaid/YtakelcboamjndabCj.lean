/- Contracts: both ConjugateOf. Conditions: slices that are not nil and read as lists of at most 2^20 numbers. -/
import Derived.Test.YtakelcboamjndabDom
import Derived.Test.YtakelcboamjndabBs2
import Derived.Test.YtakelcboamjndabEnd
namespace Go.Proofs.Ytakelcboamjndab
open Go.RowKit Go.Maps
set_option linter.unusedVariables false
set_option maxRecDepth 4000

def cjTo (xs : List Int) (j : Nat) : List Int := (List.range j).map fun i : Nat => (countGt xs (i : Int) : Int)
theorem cjTo_len (xs : List Int) (j : Nat) : (cjTo xs j).length = j := by simp [cjTo]
theorem cjTo_succ (xs : List Int) (j : Nat) : cjTo xs (j + 1) = cjTo xs j ++ [(countGt xs (j : Int) : Int)] := by simp [cjTo, List.range_succ]
def sliceLen6 : Value → Nat
  | .slice _ n _ => n
  | _ => 0
theorem Own.slice6c {w : World} {B : Nat} {v : Value} {xs : List Int} (h : Own w B v xs) : ∃ ao c, v = .slice ao xs.length c ∧ c ≤ 9223372036854775807 := by
  obtain ⟨ao, c, rfl, hc, _⟩ := h.view2
  exact ⟨ao, c, rfl, hc⟩
def cjM (xs : List Int) : Nat := (xs.getD 0 0).toNat
def cjRes (xs : List Int) : List Int := if ptB xs = true then cjTo xs (cjM xs) else []
theorem cj_first {xs : List Int} (h : ptB xs = true) : ∀ i, i < xs.length → xs.getD i 0 ≤ xs.getD 0 0 := by
  obtain ⟨t, h1, h2, h3, h4, h5⟩ := ptB_parts h
  have ha := ptOk_all xs _ _ h3
  intro i
  induction i with
  | zero => intro _; exact Int.le_refl _
  | succ i ih =>
    intro hi
    have h1 := ih (by omega)
    have h2 := (ha (i + 1) hi).2.2 (by omega)
    rw [Nat.add_sub_cancel] at h2
    omega
theorem cj_pos {xs : List Int} (h : ptB xs = true) (j : Nat) : 0 < countGt xs (j : Int) ↔ j < cjM xs := by
  unfold countGt cjM
  constructor
  · intro hp
    obtain ⟨y, hy⟩ := List.exists_mem_of_length_pos hp
    obtain ⟨h1, h2⟩ := List.mem_filter.1 hy
    obtain ⟨i, hi, rfl⟩ := List.getElem_of_mem h1
    have h3 := cj_first h i hi
    rw [getD_at hi] at h3
    have h4 : (j : Int) < xs[i] := by simpa using h2
    omega
  · intro hj
    have h0 : 0 < xs.length := by
      rcases Nat.eq_zero_or_pos xs.length with e | e
      · rw [List.eq_nil_of_length_eq_zero e] at hj; simp at hj
      · exact e
    refine List.length_pos_of_mem (a := xs[0]) (List.mem_filter.2 ⟨List.getElem_mem _, ?_⟩)
    rw [getD_at h0] at hj
    simp; omega
theorem cj_all {xs : List Int} (h : ptB xs = true) : countGt xs 0 = xs.length := by
  unfold countGt
  rw [List.filter_eq_self.2]
  intro y hy
  obtain ⟨i, hi, rfl⟩ := List.getElem_of_mem hy
  have := (ptB_pos h).2 i hi
  rw [getD_at hi] at this
  simp; omega
theorem cjM_le {xs : List Int} (h : ptB xs = true) : cjM xs ≤ 20 := by
  unfold cjM
  rcases Nat.eq_zero_or_pos xs.length with e | e
  · rw [List.eq_nil_of_length_eq_zero e]; simp
  · have := (ptB_pos h).2 0 e; omega
theorem bound_ConjugateOf (xs : List Int) : (cjRes xs).length ≤ 1048576 := by
  unfold cjRes
  split
  · rename_i h
    rw [cjTo_len]
    have := cjM_le h; omega
  · simp
theorem isGreater6_any (a b : Int) (w : World) : Calls Try.prog 75 #[.int .i64 a, .int .i64 b] w fun e w' => e = .returned (.bool (decide (b < a))) ∧ w = w' := by
  by_cases h : b < a
  all_goals
    go_enter Try.func75, Try.ntmps75
    go_wp2
    go_ret
    exact ⟨by simp; omega, rfl⟩
theorem countRelated_gt6 (v : Value) (xs : List Int) (x : Int) (w : World) (h : Reads w v xs) :
    Calls Try.prog 74 #[v, .int .i64 x, .func (.func 75) #[] #[]] w fun e w' => e = .returned (.int .i64 (countGt xs x)) ∧ w = w' := by
  obtain ⟨ao, c, rfl, hc1, hm, h⟩ := h.view
  rcases h with h | ⟨b, off, rfl, hb, hc⟩
  · subst h
    go_enter Try.func74, Try.ntmps74
    go_wp2
    refine wp_loop_rounds 1 ?_
    rw [rounds_succ]
    go_wp2
    go_ret
    exact ⟨rfl, rfl⟩
  · go_enter Try.func74, Try.ntmps74
    go_wp2
    go_loop [7, 9, 12] (fun n _ i => ∃ k : Nat, k ≤ xs.length ∧ i = .int .i64 k ∧ n = .int .i64 (countGt (xs.take k) x)) (fun _ _ i => xs.length - (intOf i).toNat)
    case atStart => exact ⟨0, Nat.zero_le _, rfl, rfl⟩
    case round =>
      obtain ⟨k, hk, rfl, rfl⟩ := hrel
      by_cases hlt : k < xs.length
      · have hcx := hc k hlt
        clear hc
        have hcl : countGt (xs.take k) x ≤ k := Nat.le_trans (countGt_le _ _) (List.length_take_le _ _)
        by_cases hx : x < xs[k]
        · have hb1 : decide (x < xs[k]) = true := by simpa using hx
          have HC := hid (countGt_yes hlt hx)
          clear hx
          go_wp2_with (go_at_call 75; refine (isGreater6_any _ _ _).mono ?_; rintro e w' ⟨rfl, rfl⟩)
          go_round
          case rel => exact ⟨k + 1, by omega, by go_num, by rw [HC.out]; go_num⟩
          case measure => simp [intOf]; omega
        · have hb1 : decide (x < xs[k]) = false := by simpa using hx
          have HC := hid (countGt_no hlt hx)
          clear hx
          go_wp2_with (go_at_call 75; refine (isGreater6_any _ _ _).mono ?_; rintro e w' ⟨rfl, rfl⟩)
          go_round
          case rel => exact ⟨k + 1, by omega, by go_num, by rw [HC.out]⟩
          case measure => simp [intOf]; omega
      · obtain rfl : k = xs.length := by omega
        go_wp2
        go_ret
        exact ⟨rfl, rfl⟩
theorem impl_ConjugateOf_any (v : Value) (xs : List Int) (w : World) (h : Sits w v xs) (hl : xs.length ≤ 1048576) (_hwf : ∀ x ∈ xs, (Lit.int .i64 x).wf = true) :
    Calls Try.prog 43 #[v] w fun e w' => ∃ u, e = .returned (.tuple #[u, .bool (ptB xs)]) ∧ OwnE w' w.heap.size u (cjRes xs) ∧ Below w.heap.size w w' := by
  have HX := hid h
  obtain ⟨b, off, c, rfl, hc1, hm, hb, hc⟩ := h
  clear hc
  cases hg : ptB xs
  · have HF := hid (show cjRes xs = [] by unfold cjRes; rw [hg]; simp)
    go_enter Try.func43, Try.ntmps43
    go_wp2_with (first | (go_at_call 30; refine (impl_IsParted_any _ xs _ HX.out.reads hl).mono ?_; rintro e w1 ⟨rfl, hb⟩; rw [hg]; have HB := hid hb; clear hb) | fail)
    go_ret2
    exact ⟨_, rfl, .inl ⟨rfl, HF.out⟩, HB.out⟩
  · have HF := hid (show cjRes xs = cjTo xs (cjM xs) by unfold cjRes; rw [if_pos hg])
    have HP := hid (cj_pos hg)
    have HA := hid (cj_all hg)
    have HM := hid (cjM_le hg)
    have hl20 : xs.length ≤ 20 := (ptB_pos hg).1
    obtain ⟨i0, hi, hz0, hz1, hz2⟩ := info_parts Try.info3
    go_enter Try.func43, Try.ntmps43
    go_wp2_with (first | (go_at_call 30; refine (impl_IsParted_any _ xs _ HX.out.reads hl).mono ?_; rintro e w1 ⟨rfl, hb⟩; rw [hg]; have HB := hid hb; clear hb) | fail)
    clear hg
    go_loopw [4, 5] (fun vp n wr => ∃ j q : Nat, n = .int .i64 (q : Int) ∧ q = countGt xs (j : Int) ∧ j ≤ cjM xs ∧ Own wr w.heap.size vp (cjTo xs j) ∧ Below w.heap.size w wr) (fun vp _ _ => 21 - sliceLen6 vp)
    case atStart => exact ⟨0, xs.length, rfl, HA.out.symm, Nat.zero_le _, Own.nil _ _, HB.out⟩
    case round =>
      obtain ⟨j, q, rfl, hq, hj, hown, hbel⟩ := hrel
      have hpj := HP.out j
      rw [← hq] at hpj
      have hmm := HM.out
      have HOWN := hid hown
      have HBW := hid hbel
      have HQ := hid hq
      by_cases hlt : j < cjM xs
      · have hq1 : 0 < q := hpj.2 hlt
        have hqI : (0 : Int) < (q : Int) := by omega
        have hj20 : j ≤ 20 := by omega
        have HX3 := hid (HX.out.below hbel)
        obtain ⟨ao, cc, rfl, hcc, _⟩ := hown.view2
        have HJL := hid (cjTo_len xs j)
        have HCS := hid (show cjTo xs j ++ [(q : Int)] = cjTo xs (j + 1) by rw [cjTo_succ, ← HQ.out])
        have HMS := hid (show j + 1 ≤ cjM xs from hlt)
        have HC1 := hid (fun W V hV => countRelated_gt6 V xs ((j + 1 : Nat) : Int) W hV)
        have hjl : (cjTo xs j).length ≤ 20 := by rw [HJL.out]; exact hj20
        rw [HJL.out] at HOWN ⊢
        obtain ⟨L, hL⟩ : ∃ L, L = cjTo xs j := ⟨_, rfl⟩
        have HLL := hid (show L.length = j by rw [hL]; exact HJL.out)
        rw [← hL] at HOWN HCS
        have HOR := hid (show wr.ownsRow w.heap.size 3 1 (.slice ao j cc) j (L.map (Value.int .i64)) by have h := HOWN.out.row; rw [HLL.out] at h; exact h)
        obtain ⟨k1, hk1⟩ : ∃ k1, k1 = j + 1 := ⟨_, rfl⟩
        rw [← hk1] at HC1 HCS HMS
        have u1 : (j : Int) + 1 = (k1 : Int) := by omega
        have u2 : IntKind.i64.wrap ((j : Int) + 1) = (k1 : Int) := by rw [IntWalk.i64_in _ (by omega)]; omega
        have HK1 := hid hk1
        have HKL := hid (cjTo_len xs k1)
        have hk20 : k1 ≤ 21 := by omega
        have HJ20 := hid hj20
        clear hown hbel hq hpj hlt hL hmm hjl hj hk1
        go_wp2_with (first
          | (go_at_call 74; (refine (HC1.out _ _ HX5.out.reads).mono ?_); (rintro e w' ⟨rfl, rfl⟩))
          | (at_builtin; (refine wpList_append_own _ rfl _ _ 22 rfl w.heap.size 3 i0 (.int .i64 0) 1 8 Try.underlying22 hi hz0 hz1 hz2 rfl (by decide) _ _ _ rfl (World.ownsRow.alloc HOR.out _) ⟨wr.heap.size, 0, none⟩ 1 1 [.int .i64 (q : Int)] rfl rfl (fun j u hj => new_cell1 j hj) (one_cell _ _) (by unfold maxLen; omega) (by omega) (by have := HBW.out.size; first | omega | (simp <;> omega)) ?_); (intro v' w5 hown5 hgrow5 _); (have hs5 := Own.snoc (xs := L) (by rw [HLL.out]; exact hown5)); (rw [HCS.out] at hs5); (obtain ⟨a5, c5, rfl, hc5⟩ := hs5.slice6c); (rw [HKL.out] at hs5 ⊢); (have HO5 := hid hs5); (have HB5 := hid ((HBW.out.alloc HBW.out.size (.cells #[.int .i64 (q : Int)] 3)).grown hgrow5 (Nat.le_trans HBW.out.size (by simp)) (fun k hk => (World.ownsRow.lt HOR.out k hk).1))); (have HX5 := hid (HX.out.below HB5.out)); (clear hown5 hgrow5 hs5))
          | fail)
        go_roundw
        case rel => exact ⟨k1, countGt xs (k1 : Int), rfl, rfl, HMS.out, HO5.out, HB5.out⟩
        case measure => simp only [sliceLen6]; have h1 := HK1.out; have h2 := HJ20.out; omega
      · have hq0 : q = 0 := by
          rcases Nat.eq_zero_or_pos q with e | e
          · exact e
          · exact absurd (hpj.1 e) hlt
        subst hq0
        have HJE := hid (show j = cjM xs by omega)
        clear hown hbel hq hpj hmm hlt hj
        go_wp2_with (first
          | (go_at_call 76; (refine (ended_any _ _ _ _ HOWN.out).mono ?_); (rintro e w4 ⟨u, rfl, ho, _, rfl⟩); (have HO := hid ho); (clear ho))
          | fail)
        go_ret2
        exact ⟨_, rfl, by rw [HF.out, ← HJE.out]; exact HO.out, HBW.out⟩
set_option maxHeartbeats 1000000 in
theorem spec_ConjugateOf_any (v : Value) (xs : List Int) (w : World) (h : Sits w v xs) (hl : xs.length ≤ 1048576) (_hwf : ∀ x ∈ xs, (Lit.int .i64 x).wf = true) :
    Calls Try.prog 42 #[v] w fun e w' => ∃ u, e = .returned (.tuple #[u, .bool (ptB xs)]) ∧ OwnE w' w.heap.size u (cjRes xs) ∧ Below w.heap.size w w' := by
  have HX := hid h
  obtain ⟨b, off, c, rfl, hc1, hm, hb, hc⟩ := h
  have HC := hid hc
  clear hc
  cases hg : ptB xs
  · have HF := hid (show cjRes xs = [] by unfold cjRes; rw [hg]; simp)
    go_enter Try.func42, Try.ntmps42
    go_wp2_with (first | (go_at_call 59; refine (spParted_any _ xs _ HX.out hl).mono ?_; rintro e w1 ⟨rfl, hb⟩; rw [hg]; have HB := hid hb; clear hb) | fail)
    go_ret2
    exact ⟨_, rfl, .inl ⟨rfl, HF.out⟩, HB.out⟩
  · have HF := hid (show cjRes xs = cjTo xs (cjM xs) by unfold cjRes; rw [if_pos hg])
    have HM := hid (cjM_le hg)
    have hl20 : xs.length ≤ 20 := (ptB_pos hg).1
    have HPP := hid (ptB_pos hg)
    obtain ⟨i0, hi, hz0, hz1, hz2⟩ := info_parts Try.info3
    go_enter Try.func42, Try.ntmps42
    go_wp2_with (first | (go_at_call 59; refine (spParted_any _ xs _ HX.out hl).mono ?_; rintro e w1 ⟨rfl, hb⟩; rw [hg]; have HB := hid hb; clear hb) | fail)
    clear hg
    go_loopw [4, 5] (fun vp i wr => ∃ j : Nat, i = .int .i64 (j : Int) ∧ j ≤ cjM xs ∧ Own wr w.heap.size vp (cjTo xs j) ∧ Below w.heap.size w wr) (fun _ i _ => 21 - (intOf i).toNat)
    case atStart => exact ⟨0, rfl, Nat.zero_le _, Own.nil _ _, HB.out⟩
    case round =>
      obtain ⟨j, rfl, hj, hown, hbel⟩ := hrel
      have hmm := HM.out
      have HOWN := hid hown
      have HBW := hid hbel
      by_cases h0 : xs.length = 0
      · have HJE := hid (show j = cjM xs by
          have : cjM xs = 0 := by unfold cjM; rw [List.eq_nil_of_length_eq_zero h0]; rfl
          omega)
        have hlI : ¬ (0 < (xs.length : Int)) := by omega
        clear hown hbel hmm hj
        go_wp2_with fail
        go_ret2
        exact ⟨_, rfl, by rw [HF.out, ← HJE.out]; exact HOWN.out.e, HBW.out⟩
      · have hlI : 0 < (xs.length : Int) := by omega
        have c0 := (hbel.cell (p := ⟨b, off + 0, none⟩) (by exact hb)).trans (HC.out 0 (by omega))
        have hx1 := (HPP.out.2 0 (by omega)).1
        have HCM := hid (show ((cjM xs : Nat) : Int) = xs.getD 0 0 by unfold cjM; omega)
        have e0 : xs[0] = xs.getD 0 0 := (getD_at (by omega)).symm
        rw [e0] at c0
        have hcm := HCM.out
        obtain ⟨x0, hx0⟩ : ∃ x0, x0 = xs.getD 0 0 := ⟨_, rfl⟩
        rw [← hx0] at c0 hcm
        have c0' : wr.cell? ⟨b, off, none⟩ = some (.int .i64 x0) := c0
        by_cases hlt : j < cjM xs
        · have hji : (j : Int) < x0 := by omega
          have HJ20 := hid (show j ≤ 20 by omega)
          have HMS := hid (show j + 1 ≤ cjM xs from hlt)
          have HXW := hid (show ∀ i (hi : i < xs.length), wr.cell? ⟨b, off + i, none⟩ = some (.int .i64 xs[i]) from fun i hi => (hbel.cell (p := ⟨b, off + i, none⟩) (by exact hb)).trans (HC.out i hi))
          obtain ⟨L, hL⟩ : ∃ L, L = cjTo xs j := ⟨_, rfl⟩
          have HLL := hid (show L.length = j by rw [hL]; exact cjTo_len xs j)
          have HCS := hid (show L ++ [(countGt xs (j : Int) : Int)] = cjTo xs (j + 1) by rw [cjTo_succ, hL])
          rw [← hL] at HOWN
          have hj20 : j ≤ 20 := by omega
          clear hown hbel hmm hj hx1 hcm hx0 e0 hL hlt
          go_wp2_with fail
          go_loop [6, 26] (fun n i => ∃ k : Nat, k ≤ xs.length ∧ i = .int .i64 (k : Int) ∧ n = .int .i64 (countGt (xs.take k) (j : Int) : Int)) (fun _ i => xs.length - (intOf i).toNat)
          case atStart => exact ⟨0, Nat.zero_le _, rfl, rfl⟩
          case round =>
            obtain ⟨k, hk, rfl, rfl⟩ := hrel
            by_cases hlt2 : k < xs.length
            · have hcx := HXW.out k hlt2
              have hcl := countGt_le (xs.take k) (j : Int)
              have hcl2 : (xs.take k).length ≤ 20 := by simp; omega
              have q1 : (k : Int) < (xs.length : Int) := by omega
              by_cases hx : (j : Int) < xs[k]
              · have HN := hid (countGt_yes hlt2 hx)
                obtain ⟨x, hxx⟩ : ∃ x, x = xs[k] := ⟨_, rfl⟩
                rw [← hxx] at hcx hx
                obtain ⟨q, hq⟩ : ∃ q, q = countGt (xs.take k) (j : Int) := ⟨_, rfl⟩
                rw [← hq] at HN hcl ⊢
                have hq20 : q ≤ 20 := by omega
                clear hcl hcl2 hxx hq
                go_wp2_with fail
                go_round
                case rel => exact ⟨k + 1, by omega, by go_num, by rw [HN.out]; push_cast; rfl⟩
                case measure => simp [intOf]; omega
              · have HN := hid (countGt_no hlt2 hx)
                obtain ⟨x, hxx⟩ : ∃ x, x = xs[k] := ⟨_, rfl⟩
                rw [← hxx] at hcx hx
                clear hcl hcl2 hxx
                go_wp2_with fail
                go_round
                case rel => exact ⟨k + 1, by omega, by go_num, by rw [HN.out]⟩
                case measure => simp [intOf]; omega
            · obtain rfl : k = xs.length := by omega
              rw [List.take_length]
              have q1 : ¬ ((xs.length : Int) < (xs.length : Int)) := by omega
              obtain ⟨q, hq⟩ : ∃ q, q = countGt xs (j : Int) := ⟨_, rfl⟩
              rw [← hq] at HCS ⊢
              clear hq
              have HLS := hid (show L.length ≤ 20 by rw [HLL.out]; exact hj20)
              have hls := HLS.out
              go_wp2_with (first
                | (at_builtin; (refine wpList_append_own _ rfl _ _ 22 rfl w.heap.size 3 i0 (.int .i64 0) 1 8 Try.underlying22 hi hz0 hz1 hz2 rfl (by decide) _ _ _ rfl (World.ownsRow.alloc HOWN.out.row _) ⟨wr.heap.size, 0, none⟩ 1 1 [.int .i64 (q : Int)] rfl rfl (fun j u hj => new_cell1 j hj) (one_cell _ _) (by unfold maxLen; omega) (by omega) (by have := HBW.out.size; first | omega | (simp <;> omega)) ?_); (intro v' w5 hown5 hgrow5 _); (have hs5 := Own.snoc hown5); (rw [HCS.out] at hs5); (have HO5 := hid hs5); (have HB5 := hid ((HBW.out.alloc HBW.out.size (.cells #[.int .i64 (q : Int)] 3)).grown hgrow5 (Nat.le_trans HBW.out.size (by simp)) (fun k hk => (World.ownsRow.lt HOWN.out.row k hk).1))); (clear hown5 hgrow5 hs5))
                | fail)
              go_roundw
              case rel => exact ⟨j + 1, by go_num, HMS.out, HO5.out, HB5.out⟩
              case measure => simp [intOf]; have := HJ20.out; omega
        · have hji : ¬ ((j : Int) < x0) := by omega
          have HJE := hid (show j = cjM xs by omega)
          clear hown hbel hmm hj hx1 hcm hx0 e0 hlt
          go_wp2_with fail
          go_ret2
          exact ⟨_, rfl, by rw [HF.out, ← HJE.out]; exact HOWN.out.e, HBW.out⟩
end Go.Proofs.Ytakelcboamjndab
