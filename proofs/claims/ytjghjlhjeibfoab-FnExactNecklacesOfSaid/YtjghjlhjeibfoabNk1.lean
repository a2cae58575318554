/- Contracts: lyAll, the model's NecklacesOf. Conditions: ints in their range. -/
import Derived.Test.YtjghjlhjeibfoabNkM
import Derived.Test.YtjghjlhjeibfoabLw2
namespace Go.Proofs.Ytjghjlhjeibfoab
open Go.RowKit
set_option linter.unusedVariables false
set_option maxRecDepth 4000

theorem bound_NecklacesOf (n k : Int) : preLen (nkRes n k) (nkRes n k).length ≤ 100000 := by
  cases h : nkB n k with
  | false => rw [nkRes_no h]; exact Nat.zero_le _
  | true =>
    rw [nkRes_yes h]
    simp only [nkB, Bool.and_eq_true, decide_eq_true_eq] at h
    obtain ⟨a, b, rfl, rfl, h1, h2, h3, h4⟩ := kindB_nat h.1
    rw [Int.toNat_natCast, Int.toNat_natCast] at h ⊢
    obtain ⟨C, hC, hC2, hW⟩ := nec_few h1 h2 h3 h4 h.2
    have e : (upT b a).toNat = C := by omega
    rw [e]
    have h5 := ncTo_len a b C
    have h6 := preLen_le (L := ncTo a b C) (c := 12) (fun l hl => by have := ncTo_rows C l hl; omega) (ncTo a b C).length
    omega
theorem wd_shift (n k : Nat) {a b : Nat} (h : wdL n k a = wdL n k b) : ∀ d, wdL n k (a + d) = wdL n k (b + d)
  | 0 => h
  | d + 1 => by
    show nxL (wdL n k (a + d)) n k = nxL (wdL n k (b + d)) n k
    rw [wd_shift n k h d]
theorem WdC.inj {n k C : Nat} (h : WdC n k C) {a b : Nat} (ha : a ≤ C) (hb : b ≤ C) (e : wdL n k a = wdL n k b) : a = b := by
  have key : ∀ a b, a < b → b ≤ C → wdL n k a = wdL n k b → False := fun a b h1 h2 e => by
    have h3 := wd_shift n k e (C - b)
    rw [show b + (C - b) = C by omega, h.none] at h3
    exact h.some _ (by omega) h3
  rcases Nat.lt_trichotomy a b with h1 | h1 | h1
  · exact absurd e (fun e => key a b h1 hb e)
  · exact h1
  · exact absurd e.symm (fun e => key b a h1 ha e)
theorem Own.same {w : World} {B : Nat} {v : Value} {xs ys : List Int} (h : Own w B v xs) (h' : Own w B v ys) : xs = ys := by
  rcases h.form with ⟨rfl, rfl⟩ | ⟨g, cap, rfl, _, _, _, _, hc, _⟩
  · rcases h'.form with ⟨_, e⟩ | ⟨g, cap, e, _⟩
    · exact e.symm
    · simp at e
  · rcases h'.form with ⟨e, _⟩ | ⟨g', cap', e, _, _, _, _, hc', _⟩
    · simp at e
    · simp only [Value.slice.injEq, Option.some.injEq, Addr.mk.injEq, and_true] at e
      obtain ⟨rfl, hl, rfl⟩ := e
      refine getD_ext hl (fun i hi => ?_)
      have h1 := hc i hi
      rw [hc' i (by omega)] at h1
      simpa using h1.symm
/-- the index of the word that v holds -/
noncomputable def ixW (n k C B : Nat) (v : Value) (w : World) : Nat := Classical.epsilon (fun j => j ≤ C ∧ Own w B v (wdL n k j))
theorem ixW_eq {n k C B i : Nat} {v : Value} {w : World} (h : WdC n k C) (hi : i ≤ C) (ho : Own w B v (wdL n k i)) : ixW n k C B v w = i := by
  have h1 : ixW n k C B v w ≤ C ∧ Own w B v (wdL n k (ixW n k C B v w)) := Classical.epsilon_spec (p := fun j => j ≤ C ∧ Own w B v (wdL n k j)) ⟨i, hi, ho⟩
  exact h.inj h1.1 hi (Own.same h1.2 ho)
set_option maxHeartbeats 2000000 in
theorem lyAll_any (n k C : Nat) (w : World) (hn1 : 1 ≤ n) (hn : n < 13) (hk1 : 1 ≤ k) (hk : k < 7) (hWC : WdC n k C) (hC : C ≤ 1400) :
    Calls Try.prog 53 #[.int .i64 (n : Int), .int .i64 (k : Int)] w fun e w' => ∃ u, e = .returned u ∧ ReadsL w' u (ncTo n k C) ∧ Below w.heap.size w w' := by
  obtain ⟨j0, hj, hy0, hy1, hy2⟩ := info_parts Try.infoL
  obtain ⟨i0, hi0, hz0, hz1, hz2⟩ := info_parts Try.info3
  have HO0 := hid (own_one w 0)
  have HB0 := hid ((Below.refl w.heap.size w).alloc (Nat.le_refl _) (.cells #[.int .i64 0] 3))
  have HWD := hid hWC
  have HIX := hid (fun (i : Nat) (v : Value) (W : World) (h1 : i ≤ C) (h2 : Own W w.heap.size v (wdL n k i)) => ixW_eq hWC h1 h2)
  clear hWC
  go_enter Try.func53, Try.ntmps53
  go_wp2_with fail
  go_loopw [5, 6, 7] (fun lv vv _ wr => ∃ (i p c0 m c : Nat) (aA ao : Option Addr), lv = .slice aA p c0 ∧ vv = .slice ao m c ∧ m = (wdL n k i).length ∧ i ≤ C ∧ p ≤ i ∧ Own wr w.heap.size (.slice ao m c) (wdL n k i) ∧ Lists wr w.heap.size (.slice aA p c0) (ncTo n k i) ∧ Below w.heap.size w wr) (fun _ vv _ wr => C - ixW n k C w.heap.size vv wr)
  case atStart => exact ⟨0, 0, 0, 1, 1, none, _, rfl, rfl, rfl, Nat.zero_le _, Nat.le_refl _, HO0.out, Lists.nil _ _, HB0.out⟩
  case round =>
    obtain ⟨i, p, c0, m, c, aA, ao, rfl, rfl, hm, hi, hpi, hown, hli, hbel⟩ := hrel
    have HO := hid hown
    have HL := hid hli
    have HB := hid hbel
    have HI1 := hid (HIX.out i _ _ hi hown)
    have HPI := hid hpi
    clear hown hli hbel
    by_cases hm0 : 0 < m
    · have q1 : (0 : Int) < (m : Int) := by omega
      have hne : wdL n k i ≠ [] := by intro e; rw [e] at hm; simp at hm; omega
      have hiC : i < C := by
        by_cases e : i = C
        · rw [e, HWD.out.none] at hne; exact absurd rfl hne
        · omega
      have hw := HWD.out.word hn1 hn hk1 hk hiC
      have HX := hid (show nxL (wdL n k i) n k = wdL n k (i + 1) from rfl)
      have HYES := hid (fun h => ncTo_yes (n := n) (k := k) (i := i) h)
      have HNO := hid (fun h => ncTo_no (n := n) (k := k) (i := i) h)
      obtain ⟨W, hW⟩ : ∃ W, W = wdL n k i := ⟨_, rfl⟩
      rw [← hW] at HO hw HX hm HYES HNO
      rw [← hm] at HYES HNO
      have hw1 := hw.1
      have hw2 := hw.2.1
      have HBE := hid hw.2.2
      have HLM := hid (show W.length = m from hm.symm)
      have hSE := hid (fun (W' : World) (h : Own W' w.heap.size (.slice ao m c) W) => OwnE.sitsN h.e hw1)
      obtain ⟨r, hr⟩ : ∃ r, r = n % m := ⟨_, rfl⟩
      obtain ⟨u1, u2⟩ := rem_nat hr
      have u3 : ((m : Int) == 0) = false := beq_eq_false_iff_ne.2 (by omega)
      have HRE := hid hr
      have hrl : r < 13 := by rw [hr]; have := Nat.mod_lt n (show m > 0 by omega); omega
      have hm12 : m ≤ 12 := by omega
      have HI := hid (show i + 1 ≤ C from hiC)
      have hp14 : p ≤ 1400 := by omega
      clear hm hW hw hne hr hi hiC hpi
      by_cases hr0 : r = 0
      · have HD := hid (show n % m = 0 by rw [← HRE.out]; exact hr0)
        subst hr0
        have HNC := hid (HYES.out HD.out)
        obtain ⟨wo, hwo⟩ : ∃ wo : World, wo = wr := ⟨_, rfl⟩
        go_wp2_with fail
        subst hwo
        go_loopw [7] (fun sv wr => ∃ (q cc : Nat) (a1 : Option Addr), sv = .slice a1 q cc ∧ q ≤ n ∧ q % m = 0 ∧ Own wr wo.heap.size (.slice a1 q cc) (arL W 0 q) ∧ Below wo.heap.size wo wr) (fun s _ => n - slLenN s)
        case atStart => exact ⟨0, 0, none, rfl, Nat.zero_le _, Nat.zero_mod _, Own.nil _ _, Below.refl _ _⟩
        case round =>
          obtain ⟨q, cc, a1, rfl, hq, hqm, hown1, hbel1⟩ := hrel
          have HO1 := hid hown1
          have HB1 := hid hbel1
          have HOW := hid (HO.out.below hbel1)
          have HLW := hid (HL.out.below hbel1)
          have HLQ := hid (arL_len W 0 q)
          clear hown1 hbel1
          by_cases hlt : q < n
          · have hrd := round_le (by omega) HD.out hqm hlt
            have HQ1 := hid hrd.1
            have HQ2 := hid hrd.2
            have HRD := hid (show arL W 0 q ++ W = arL W 0 (q + m) by rw [arL_round hw1 (by rw [HLM.out]; exact hqm), HLM.out])
            have q2 : (q : Int) < (n : Int) := by omega
            clear hrd hqm
            go_wp2_with (first
              | (at_builtin; (refine wpList_append_src _ rfl _ _ 22 rfl wo.heap.size i0 Try.underlying22 hi0 hz0 hz1 hz2 _ (arL W 0 q) rfl HO1.out _ w.heap.size W rfl HOW.out (by rw [HLQ.out, HLM.out]; omega) HB1.out.size ?_); (intro v5 w5 ho5 hg5); (rw [HRD.out] at ho5); (obtain ⟨a5, c5, hv5, _⟩ := ho5.e.shp); (rw [arL_len] at hv5); (subst hv5); (have HO5 := hid ho5); (have HB5 := hid (HB1.out.grown hg5 HB1.out.size (fun t ht => (World.ownsRow.lt HO1.out.row t ht).1))); (clear ho5 hg5))
              | fail)
            go_roundw
            case rel => exact ⟨q + m, c5, a5, rfl, HQ1.out, HQ2.out, HO5.out, HB5.out⟩
            case measure => simp only [slLenN]; omega
          · obtain rfl : q = n := by omega
            have q2 : ¬ (q : Int) < (q : Int) := by omega
            have HBW := hid (Below_chain HB.out HB1.out)
            have HO2 := hid (HO1.out.mono HB.out.size)
            clear hqm
            go_wp2_with (first
              | (at_builtin; (refine wpList_pushL3 _ rfl _ _ 32 rfl w.heap.size j0 Try.underlying32 hj hy0 hy1 hy2 aA p c0 (ncTo q k i) rfl HLW.out (.slice a1 q cc) (arL W 0 q) HO2.out wr.heap.size rfl rfl (by omega) HBW.out.size ?_); (intro g4 c4 w4 hl4 hk4 hb4); (rw [← HNC.out] at hl4); (have HL4 := hid hl4); (have HU4 := hid (hk4 _ _ _ HOW.out)); (have HB4 := hid (hb4 w rfl HBW.out)); (clear hl4 hk4 hb4))
              | (go_at_call 44; (refine (lyNext_any _ W q k _ (hSE.out _ HU4.out) hw1 (by omega) hn1 hn hk1 hk HBE.out).mono ?_); (rintro e w5 ⟨g5, c5, rfl, ho5, hb5⟩); (rw [HX.out] at ho5 ⊢); (have HO5 := hid (ho5.mono HB4.out.size)); (have HL5 := hid (HL4.out.below hb5)); (have HB5 := hid (Below_chain HB4.out hb5)); (clear ho5 hb5))
              | fail)
            go_roundw
            case rel => exact ⟨i + 1, p + 1, c4, _, c5, some ⟨g4, 0, none⟩, some ⟨g5, 0, none⟩, rfl, rfl, rfl, HI.out, by have := HPI.out; omega, HO5.out, HL5.out, HB5.out⟩
            case measure =>
              rw [HIX.out (i + 1) _ _ HI.out HO5.out, HI1.out]
              have := HI.out; omega
      · have u4 : ((r : Int) != 0) = true := by simp; omega
        have HNC := hid (HNO.out (by rw [← HRE.out]; exact hr0))
        clear hr0
        go_wp2_with (first
          | (go_at_call 44; (refine (lyNext_any _ W n k _ (hSE.out _ HO.out) hw1 (by omega) hn1 hn hk1 hk HBE.out).mono ?_); (rintro e w5 ⟨g5, c5, rfl, ho5, hb5⟩); (rw [HX.out] at ho5 ⊢); (have HO5 := hid (ho5.mono HB.out.size)); (have HL5 := hid (HL.out.below hb5)); (have HB5 := hid (Below_chain HB.out hb5)); (clear ho5 hb5))
          | fail)
        go_roundw
        case rel => exact ⟨i + 1, p, c0, _, c5, aA, some ⟨g5, 0, none⟩, rfl, rfl, rfl, HI.out, by have := HPI.out; omega, HO5.out, by rw [HNC.out]; exact HL5.out, HB5.out⟩
        case measure =>
          rw [HIX.out (i + 1) _ _ HI.out HO5.out, HI1.out]
          have := HI.out; omega
    · have hz : m = 0 := by omega
      have HE := hid (show i = C by
        by_cases e : i < C
        · exact absurd (List.eq_nil_of_length_eq_zero (by omega)) (HWD.out.some i e)
        · omega)
      subst hz
      clear hm
      go_wp2_with fail
      go_ret
      exact ⟨_, rfl, by rw [← HE.out]; exact HL.out.readsL, HB.out⟩
end Go.Proofs.Ytjghjlhjeibfoab
