/- Contracts: lyBracelet, both IsBracelet. Conditions: slices that are not nil and read as lists of at most 2^20 numbers. -/
import Derived.Test.YtjghjlhjeibfoaaLy5
import Derived.Test.YtjghjlhjeibfoaaLy6
import Derived.Test.YtjghjlhjeibfoaaRevI
namespace Go.Proofs.Ytjghjlhjeibfoaa
open Go.RowKit
set_option linter.unusedVariables false
set_option maxRecDepth 4000

/-- bracelets -/
def brB (xs : List Int) : Bool := neckB xs && !lessL (arL xs.reverse (leastL xs.reverse) xs.length) xs
theorem brB_spec {xs : List Int} (h : neckB xs = true) : brB xs = decide (cmpL xs (arL xs.reverse (leastL xs.reverse) xs.length) ≤ 0) := by
  unfold brB lessL
  rw [h, Bool.true_and, cmpL_swap]
  by_cases e : cmpL xs (arL xs.reverse (leastL xs.reverse) xs.length) ≤ 0
  · rw [decide_eq_true e, decide_eq_false (by omega)]; rfl
  · rw [decide_eq_false e, decide_eq_true (by omega)]; rfl
theorem rev_small {xs : List Int} (h : smallL xs) : smallL xs.reverse := by
  intro i hi
  have h1 : i < xs.length := by simpa using hi
  have h2 : xs.reverse.getD i 0 = xs.getD (xs.length - 1 - i) 0 := by
    rw [List.getD_eq_getElem?_getD, List.getElem?_reverse h1, ← List.getD_eq_getElem?_getD]
  rw [h2]; exact h _ (by omega)
theorem revTo_succ {xs : List Int} {j : Nat} (h : j < xs.length) : xs.reverse.take (j + 1) = xs.reverse.take j ++ [xs.getD (xs.length - 1 - j) 0] := by
  have h1 : j < xs.reverse.length := by simpa using h
  rw [List.take_succ_eq_append_getElem h1, List.getElem_reverse, getD_at (by omega)]
set_option maxHeartbeats 2000000 in
theorem lyBracelet_any (v : Value) (xs : List Int) (w : World) (h : Sits w v xs) (h1 : 1 ≤ xs.length) (hl : xs.length ≤ 24) (hs : smallL xs) :
    Calls Try.prog 50 #[v] w fun e w' => e = .returned (.bool (brB xs)) ∧ Below w.heap.size w w' := by
  have HS := hid h
  obtain ⟨b, off, c, rfl, hc1, hm, hb, hc⟩ := h
  obtain ⟨i0, hi, hz0, hz1, hz2⟩ := info_parts Try.info3
  have HC := hid hc
  have HSM := hid hs
  clear hc hs
  go_enter Try.func50, Try.ntmps50
  go_wp2_with fail
  go_loopw [3, 4] (fun vp iv wr => ∃ j : Nat, iv = .int .i64 ((xs.length : Int) - 1 - (j : Int)) ∧ j ≤ xs.length ∧ Own wr w.heap.size vp (xs.reverse.take j) ∧ Below w.heap.size w wr) (fun _ i _ => (intOf i + 1).toNat)
  case atStart => exact ⟨0, by go_num, Nat.zero_le _, Own.nil _ _, Below.refl _ _⟩
  case round =>
    obtain ⟨j, rfl, hj, hown, hbel⟩ := hrel
    have HO := hid hown
    have HB := hid hbel
    by_cases hlt : j < xs.length
    · obtain ⟨q, hq⟩ : ∃ q, q = xs.length - 1 - j := ⟨_, rfl⟩
      have hq1 : q < xs.length := by omega
      obtain ⟨x, hx⟩ : ∃ x, x = xs[q] := ⟨_, rfl⟩
      have hcx : wr.cell? ⟨b, off + q, none⟩ = some (.int .i64 x) := by rw [hx]; exact (hbel.cell (by exact hb)).trans (HC.out q hq1)
      have HD := hid (show xs.reverse.take (j + 1) = xs.reverse.take j ++ [x] by rw [revTo_succ hlt, ← hq, getD_at hq1, hx])
      have e1 : (xs.length : Int) - 1 - (j : Int) = (q : Int) := by omega
      have HE1 := hid (show (q : Int) - 1 = (xs.length : Int) - 1 - ((j + 1 : Nat) : Int) by omega)
      rw [e1]
      obtain ⟨ao, cc, rfl, hcc, _⟩ := hown.view3
      have HLN := hid (show (xs.reverse.take j).length = j by simp; omega)
      rw [HLN.out] at HO ⊢
      have hjb : j ≤ 1048576 := by omega
      have q0 : (0 : Int) ≤ (q : Int) := by omega
      have q2 : (q : Int) < (xs.length : Int) := by omega
      clear hown hbel hq hx e1
      go_wp2_with (first
        | (at_builtin; (refine wpList_push _ rfl _ _ 22 rfl w.heap.size i0 Try.underlying22 hi hz0 hz1 hz2 ao j cc (xs.reverse.take j) rfl HO.out x wr.heap.size rfl rfl hjb HB.out.size ?_); (intro g5 c5 w5 hp5); (have HO5 := hid (show Own w5 w.heap.size (.slice (some ⟨g5, 0, none⟩) (j + 1) c5) (xs.reverse.take (j + 1)) by rw [HD.out]; exact hp5.own)); (have HB5 := hid (hp5.below w rfl HB.out)); (clear hp5))
        | fail)
      go_roundw
      case rel => exact ⟨j + 1, by rw [← HE1.out], by omega, HO5.out, HB5.out⟩
      case measure => simp [intOf] <;> omega
    · obtain rfl : j = xs.length := by omega
      have e1 : (xs.length : Int) - 1 - (xs.length : Int) = -1 := by omega
      rw [e1]
      have htk : xs.reverse.take xs.length = xs.reverse := List.take_of_length_le (by simp)
      rw [htk] at HO
      rcases hown.form with ⟨_, e⟩ | ⟨g, cap, rfl, _⟩
      · rw [htk] at e
        have : xs.reverse.length = 0 := by rw [e]; rfl
        rw [List.length_reverse] at this; omega
      · have HLN := hid (show (xs.reverse.take xs.length).length = xs.length by rw [htk]; simp)
        rw [HLN.out] at HO ⊢
        have HSW := hid (HS.out.below hbel)
        have HSR := hid (show Sits wr (.slice (some ⟨g, 0, none⟩) xs.length cap) xs.reverse from HO.out.sits)
        have HRL := hid (show xs.reverse.length = xs.length by simp)
        have HRS := hid (rev_small HSM.out)
        clear hown hbel htk e1
        cases hn : neckB xs with
        | false =>
          have HF := hid (show brB xs = false by unfold brB; rw [hn]; rfl)
          go_wp2_with (first
            | (go_at_call 46; (refine (lyNecklace_any _ xs _ HSW.out h1 hl HSM.out).mono ?_); (rintro e w1 ⟨rfl, hb1⟩); (rw [hn]); (have HB1 := hid (Below_chain HB.out hb1)); (clear hb1))
            | fail)
          go_ret
          exact ⟨ret_bool HF.out.symm, HB1.out⟩
        | true =>
          have HF := hid (brB_spec hn)
          obtain ⟨z, hz⟩ : ∃ z, z = cmpL xs (arL xs.reverse (leastL xs.reverse) xs.length) := ⟨_, rfl⟩
          rw [← hz] at HF
          have HZ := hid hz
          have hlr : leastL xs.reverse ≤ 1048576 := by have := leastL_lt (xs := xs.reverse) (by rw [HRL.out]; exact h1); rw [HRL.out] at this; omega
          obtain ⟨m, hmm⟩ : ∃ m, m = leastL xs.reverse := ⟨_, rfl⟩
          have HMM := hid hmm
          rw [← hmm] at HZ hlr
          clear hz hmm
          go_wp2_with (first
            | (go_at_call 46; (refine (lyNecklace_any _ xs _ HSW.out h1 hl HSM.out).mono ?_); (rintro e w1 ⟨rfl, hb1⟩); (rw [hn]); (have HSR1 := hid (HSR.out.below hb1)); (have HSW1 := hid (HSW.out.below hb1)); (have HB1 := hid (Below_chain HB.out hb1)); (clear hb1))
            | (go_at_call 42; (refine (lyLeast_any _ xs.reverse _ HSR1.out (by rw [HRL.out]; exact h1) (by rw [HRL.out]; exact hl) HRS.out).mono ?_); (rintro e w2 ⟨rfl, hb2⟩); (rw [← HMM.out]); (have HSR2 := hid (HSR1.out.below hb2)); (have HSW2 := hid (HSW1.out.below hb2)); (have HB2 := hid (Below_chain HB1.out hb2)); (clear hb2))
            | (go_at_call 40; (refine (lyRotate_any _ xs.reverse m _ HSR2.out hlr (by rw [HRL.out]; exact h1) (by rw [HRL.out]; omega)).mono ?_); (rintro e w3 ⟨g3, c3, rfl, ho3, hb3⟩); (rw [HRL.out] at ho3 ⊢); (have HO3 := hid ho3); (have HSW3 := hid (HSW2.out.below hb3)); (have HB3 := hid (Below_chain HB2.out hb3)); (clear ho3 hb3))
            | (go_at_call 62; (refine (lyCompare_any _ _ _ _ _ HSW3.out.reads HO3.out.reads HSM.out (by rw [← HRL.out]; exact smallL_ar HRS.out (by rw [HRL.out]; exact h1) _ _) (by omega) (by rw [arL_len]; omega)).mono ?_); (rintro e w4 ⟨rfl, hb4⟩); (rw [← HZ.out]); (have HB4 := hid (Below_chain HB3.out hb4)); (clear hb4))
            | fail)
          go_ret
          exact ⟨ret_bool HF.out.symm, HB4.out⟩
theorem law_spec_IsBracelet (v : Value) (xs : List Int) (w : World) (h : Sits w v xs) (hl : xs.length ≤ 1048576) (_hwf : ∀ x ∈ xs, (Lit.int .i64 x).wf = true) :
    Calls Try.prog 28 #[v] w fun e w' => e = .returned (.tuple #[.bool (atW xs false (brB xs)), .bool (lyW xs)]) ∧ Below w.heap.size w w' := by
  have HS := hid h
  cases hn : lyW xs with
  | false =>
    have HF := hid (atW_no (d := false) (r := brB xs) hn)
    go_enter Try.func28, Try.ntmps28
    go_wp2_with (first | (go_at_call 37; (refine (lyWord_any _ xs _ HS.out).mono ?_); (rintro e w1 ⟨rfl, rfl⟩); (rw [hn])) | fail)
    go_ret2
    exact ⟨by rw [HF.out]; rfl, Below.refl _ _⟩
  | true =>
    have HF := hid (atW_yes (d := false) (r := brB xs) hn)
    obtain ⟨⟨h1, h2⟩, hs⟩ := lyW_small hn
    go_enter Try.func28, Try.ntmps28
    go_wp2_with (first
      | (go_at_call 37; (refine (lyWord_any _ xs _ HS.out).mono ?_); (rintro e w1 ⟨rfl, rfl⟩); (rw [hn]))
      | (go_at_call 50; (refine (lyBracelet_any _ xs _ HS.out h1 h2 hs).mono ?_); (rintro e w2 ⟨rfl, hb2⟩); (have HB2 := hid hb2); (clear hb2))
      | fail)
    go_ret2
    exact ⟨by rw [HF.out]; rfl, HB2.out⟩
set_option maxHeartbeats 1000000 in
theorem law_impl_IsBracelet (v : Value) (xs : List Int) (w : World) (h : Sits w v xs) (hl : xs.length ≤ 1048576) (_hwf : ∀ x ∈ xs, (Lit.int .i64 x).wf = true) :
    Calls Try.prog 29 #[v] w fun e w' => e = .returned (.tuple #[.bool (atW xs false (brB xs)), .bool (lyW xs)]) ∧ Below w.heap.size w w' := by
  have HS := hid h
  cases hn : lyW xs with
  | false =>
    have HF := hid (atW_no (d := false) (r := brB xs) hn)
    go_enter Try.func29, Try.ntmps29
    go_wp2_with (first | (go_at_call 14; (refine (impl_IsWord_any _ xs _ HS.out.reads).mono ?_); (rintro e w1 ⟨rfl, rfl⟩); (rw [hn])) | fail)
    go_ret2
    exact ⟨by rw [HF.out]; rfl, Below.refl _ _⟩
  | true =>
    have HF := hid (atW_yes (d := false) (r := brB xs) hn)
    obtain ⟨⟨h1, h2⟩, hs⟩ := lyW_small hn
    have hlb : xs.length ≤ 1048576 := by omega
    have HRL := hid (show xs.reverse.length = xs.length by simp)
    cases hk : neckB xs with
    | false =>
      have HG := hid (show brB xs = false by unfold brB; rw [hk]; rfl)
      go_enter Try.func29, Try.ntmps29
      go_wp2_with (first
        | (go_at_call 14; (refine (impl_IsWord_any _ xs _ HS.out.reads).mono ?_); (rintro e w1 ⟨rfl, rfl⟩); (rw [hn]))
        | (go_at_call 51; (refine (copyOf_any _ xs _ HS.out hlb).mono ?_); (rintro e w0 ⟨rfl, hr0, hb0⟩); (have HR0 := hid hr0); (have HB0 := hid hb0); (have HSZ := hid hb0.size); (clear hr0 hb0))
        | (go_at_call 52; (refine (Reverse_row _ xs _ HR0.out hlb).mono ?_); (rintro e w1 ⟨rfl, hr1, hb1⟩); (have HR1 := hid (copy_own (xs := xs.reverse) (by rw [HRL.out]; exact hlb) hr1)); (have HB1 := hid (Below.trans HB0.out hb1)); (clear hr1 hb1))
        | (go_at_call 43; (rw [HRL.out] at HR1); (refine (leastRotation_any _ xs.reverse _ HR1.out.sits (by rw [HRL.out]; exact h1) (by rw [HRL.out]; exact h2)).mono ?_); (rintro e w2 ⟨g2, c2, rfl, ho2, hb2⟩); (rw [HRL.out] at ho2 ⊢); (have HO2 := hid ho2); (have HB2 := hid (Below_chain HB1.out hb2)); (have HS2 := hid (HS.out.below HB2.out)); (clear ho2 hb2))
        | (go_at_call 47; (refine (isNecklace_any _ xs _ HS2.out h1 h2).mono ?_); (rintro e w3 ⟨rfl, hb3⟩); (rw [hk]); (have HB3 := hid (Below_chain HB2.out hb3)); (clear hb3))
        | fail)
      go_ret2
      exact ⟨by rw [HF.out, HG.out]; rfl, HB3.out⟩
    | true =>
      have HG := hid (show brB xs = !lessL (arL xs.reverse (leastL xs.reverse) xs.length) xs by unfold brB; rw [hk]; rfl)
      go_enter Try.func29, Try.ntmps29
      go_wp2_with (first
        | (go_at_call 14; (refine (impl_IsWord_any _ xs _ HS.out.reads).mono ?_); (rintro e w1 ⟨rfl, rfl⟩); (rw [hn]))
        | (go_at_call 51; (refine (copyOf_any _ xs _ HS.out hlb).mono ?_); (rintro e w0 ⟨rfl, hr0, hb0⟩); (have HR0 := hid hr0); (have HB0 := hid hb0); (have HSZ := hid hb0.size); (clear hr0 hb0))
        | (go_at_call 52; (refine (Reverse_row _ xs _ HR0.out hlb).mono ?_); (rintro e w1 ⟨rfl, hr1, hb1⟩); (have HR1 := hid (copy_own (xs := xs.reverse) (by rw [HRL.out]; exact hlb) hr1)); (have HB1 := hid (Below.trans HB0.out hb1)); (clear hr1 hb1))
        | (go_at_call 43; (rw [HRL.out] at HR1); (refine (leastRotation_any _ xs.reverse _ HR1.out.sits (by rw [HRL.out]; exact h1) (by rw [HRL.out]; exact h2)).mono ?_); (rintro e w2 ⟨g2, c2, rfl, ho2, hb2⟩); (rw [HRL.out] at ho2 ⊢); (have HO2 := hid ho2); (have HB2 := hid (Below_chain HB1.out hb2)); (have HS2 := hid (HS.out.below HB2.out)); (clear ho2 hb2))
        | (go_at_call 47; (refine (isNecklace_any _ xs _ HS2.out h1 h2).mono ?_); (rintro e w3 ⟨rfl, hb3⟩); (rw [hk]); (have HB3 := hid (Below_chain HB2.out hb3)); (have HS3 := hid (HS2.out.below hb3)); (have HO3 := hid (HO2.out.below hb3)); (clear hb3))
        | (go_at_call 53; (refine (isLess_any _ _ _ _ _ HO3.out.reads HS3.out.reads).mono ?_); (rintro e w4 ⟨rfl, rfl⟩))
        | fail)
      go_ret2
      exact ⟨by rw [HF.out, HG.out]; rfl, HB3.out⟩
end Go.Proofs.Ytjghjlhjeibfoaa
