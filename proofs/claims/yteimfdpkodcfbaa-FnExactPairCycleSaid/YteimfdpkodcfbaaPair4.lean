/- Contracts: both IsPairCycle, both PairPlace functions. Conditions: slices that are not nil and read as lists. -/
import Derived.Test.YteimfdpkodcfbaaPair1
import Derived.Test.YteimfdpkodcfbaaPair3
import Derived.Test.YteimfdpkodcfbaaIndP
namespace Go.Proofs.Yteimfdpkodcfbaa
open Go.RowKit Go.Maps
set_option linter.unusedVariables false
set_option maxRecDepth 4000

def prOk (n : Int) (xs : List Int) : Bool := inB n 2 11 && suWB xs
def ipR (n : Int) (xs : List Int) : Bool := prOk n xs && prB n.toNat xs
def ppO (n : Int) (xs : List Int) (a b : Int) : Bool := ipR n xs && okP n [a, b]
def ppR (n : Int) (xs : List Int) (a b : Int) : Int := if ppO n xs a b = true then (plcP xs a b : Int) else 0
theorem prOk_l {n : Int} {xs : List Int} (h : inB n 2 11 = false) : prOk n xs = false := by unfold prOk; rw [h]; rfl
theorem prOk_r {n : Int} {xs : List Int} (h : inB n 2 11 = true) : prOk n xs = suWB xs := by unfold prOk; rw [h]; rfl
theorem ipR_no {n : Int} {xs : List Int} (h : prOk n xs = false) : ipR n xs = false := by unfold ipR; rw [h]; rfl
theorem ipR_yes {m : Nat} {xs : List Int} (h : prOk (m : Int) xs = true) : ipR (m : Int) xs = prB m xs := by unfold ipR; rw [h]; rfl
theorem ret_bb9 {a a' b b' : Bool} (h : a = a') (h2 : b = b') : Ending.returned (.tuple #[.bool a, .bool b]) = .returned (.tuple #[.bool a', .bool b']) := by rw [h, h2]
theorem getD_wf {xs : List Int} (h : ∀ n ∈ xs, (Lit.int .i64 n).wf = true) (i : Nat) : (Lit.int .i64 (xs.getD i 0)).wf = true := by
  by_cases hi : i < xs.length
  · rw [getD_at hi]; exact h _ (List.getElem_mem hi)
  · rw [List.getD_eq_getElem?_getD, List.getElem?_eq_none (by omega)]; decide
theorem pk_two {ws : List Int} {N : Nat} (h : ∀ n ∈ ws, (Lit.int .i64 n).wf = true) {l : List Int} (hl : l ∈ winL (upTo N) 2) : ∃ x y, pkL ws l = [x, y] ∧ (Lit.int .i64 x).wf = true ∧ (Lit.int .i64 y).wf = true := by
  obtain ⟨i, _, rfl⟩ := List.mem_map.1 hl
  obtain ⟨p, q, e⟩ : ∃ p q, arL (upTo N) i 2 = [p, q] := ⟨_, _, by unfold arL; rw [show List.range 2 = [0, 1] from rfl, List.map_cons, List.map_cons, List.map_nil]⟩
  show ∃ x y, pkL ws (arL (upTo N) i 2) = [x, y] ∧ _
  rw [e]
  exact ⟨_, _, rfl, getD_wf h _, getD_wf h _⟩
theorem rkP_wf {n : Nat} (hn : inB (n : Int) 2 11 = true) (l : List Int) : (Lit.int .i64 (rkP n l)).wf = true := by
  have h0 := inB_iff.1 hn
  cases h : okP n l with
  | false =>
    unfold okP at h
    unfold rkP
    rw [crRes_no h]; decide
  | true =>
    have h1 := rkP_lt hn h
    have h2 := (chooseZ_two n (by omega) (by omega)).2.2
    exact WalkArith.wf_i64 (by omega)
theorem prB_ly {n N : Nat} (hn : inB (n : Int) 2 11 = true) (hN : N = n * (n - 1) / 2) (ws : List Int) : (decide (ws.length = N) && lyB (rkP n) (okP n) (winL (upTo N) 2) ws) = prB n ws := by
  have h0 := inB_iff.1 hn
  have h1 := (chooseZ_two n (by omega) (by omega)).2.1
  by_cases h : ws.length = N
  · rw [decide_eq_true h, Bool.true_and, lyB_win h.symm (by omega), ← h, prB_iff hn (h.trans hN)]
  · rw [decide_eq_false h, Bool.false_and]
    unfold prB
    rw [decide_eq_false (by rw [← hN]; exact h), Bool.false_and]
theorem sits9 {w : World} {B : Nat} {v : Value} {xs : List Int} (h : Own w B v xs) (h0 : 0 < xs.length) : Sits w v xs := by
  obtain ⟨g, n, c, rfl⟩ := Own.shape h h0
  exact h.sits
theorem spec_IsPairCycle_any (n : Int) (v : Value) (xs : List Int) (w : World) (_hn : (Lit.int .i64 n).wf = true) (h : Sits w v xs) (_hl : xs.length ≤ 1048576) (_hwf : ∀ n ∈ xs, (Lit.int .i64 n).wf = true) :
    Calls Try.prog 34 #[.int .i64 n, v] w fun e w' => e = .returned (.tuple #[.bool (ipR n xs), .bool (prOk n xs)]) ∧ Below w.heap.size w w' := by
  have HS := hid h
  clear h
  cases hn : inB n 2 11 with
  | false =>
    have HK := hid (prOk_l (xs := xs) hn)
    have HR := hid (ipR_no HK.out)
    go_enter Try.func34, Try.ntmps34
    go_wp2_with (first | (go_at_call 85; (refine (suPairSize_any _ _).mono ?_); (rintro e w' ⟨rfl, rfl⟩); (rw [hn])) | fail)
    go_ret2
    exact ⟨ret_bb9 HR.out.symm HK.out.symm, Below.refl _ _⟩
  | true =>
    have h0 := inB_iff.1 hn
    obtain ⟨m, rfl⟩ : ∃ m : Nat, n = (m : Int) := ⟨n.toNat, by omega⟩
    have HN := hid hn
    cases hw : suWB xs with
    | false =>
      have HK := hid ((prOk_r (xs := xs) hn).trans hw)
      have HR := hid (ipR_no HK.out)
      go_enter Try.func34, Try.ntmps34
      go_wp2_with (first | (go_at_call 85; (refine (suPairSize_any _ _).mono ?_); (rintro e w' ⟨rfl, rfl⟩); (rw [HN.out])) | (go_at_call 86; (refine (suWord_any _ xs _ HS.out).mono ?_); (rintro e w' ⟨rfl, rfl⟩); (rw [hw])) | fail)
      go_ret2
      exact ⟨ret_bb9 HR.out.symm HK.out.symm, Below.refl _ _⟩
    | true =>
      have HK := hid ((prOk_r (xs := xs) hn).trans hw)
      have HR := hid (ipR_yes HK.out)
      have hl2 := suWB_len hw
      go_enter Try.func34, Try.ntmps34
      go_wp2_with (first
        | (go_at_call 85; (refine (suPairSize_any _ _).mono ?_); (rintro e w' ⟨rfl, rfl⟩); (rw [HN.out]))
        | (go_at_call 86; (refine (suWord_any _ xs _ HS.out).mono ?_); (rintro e w' ⟨rfl, rfl⟩); (rw [hw]))
        | (go_at_call 87; (refine (suPairs_any m _ xs _ HN.out HS.out hl2).mono ?_); (rintro e w1 ⟨rfl, hb1⟩); (have HB1 := hid hb1); (clear hb1)) | fail)
      go_ret2
      exact ⟨ret_bb9 HR.out.symm HK.out.symm, HB1.out⟩
theorem pair_clo {m N b0 : Nat} {ws : List Int} {w1 : World} (hwf : ∀ n ∈ ws, (Lit.int .i64 n).wf = true) (hm : (Lit.int .i64 (m : Int)).wf = true) (hc : w1.cell? ⟨b0, 0, none⟩ = some (.int .i64 (m : Int))) (hlt : b0 < w1.heap.size) :
    ∀ (W : World) (x : Value) (B : Nat) (ys : List Int), (∃ l ∈ winL (upTo N) 2, ys = pkL ws l) → Own W B x ys → Below w1.heap.size w1 W → Calls Try.prog 133 #[x, .pointer (some ⟨b0, 0, none⟩)] W fun e w' => e = .returned (.tuple #[.int .i64 (rkP m ys), .bool (okP m ys)]) ∧ Below W.heap.size W w' := by
  intro W x B ys hys ho hb
  obtain ⟨l, hl, rfl⟩ := hys
  obtain ⟨p, q, e, hp, hq⟩ := pk_two hwf hl
  rw [e] at ho ⊢
  exact pairRank_any _ _ _ p q W hm ((hb.cell (by exact hlt)).trans hc) (Nat.lt_of_lt_of_le hlt hb.size) (sits9 ho (by simp)) hp hq
theorem impl_IsPairCycle_any (n : Int) (v : Value) (xs : List Int) (w : World) (_hn : (Lit.int .i64 n).wf = true) (h : Sits w v xs) (_hl : xs.length ≤ 1048576) (_hwf : ∀ n ∈ xs, (Lit.int .i64 n).wf = true) :
    Calls Try.prog 35 #[.int .i64 n, v] w fun e w' => e = .returned (.tuple #[.bool (ipR n xs), .bool (prOk n xs)]) ∧ Below w.heap.size w w' := by
  have HS := hid h
  have HWF := hid _hwf
  have HNW := hid _hn
  clear h _hwf
  cases hn : inB n 2 11 with
  | false =>
    have HK := hid (prOk_l (xs := xs) hn)
    have HR := hid (ipR_no HK.out)
    go_enter Try.func35, Try.ntmps35
    go_wp2_with (first | (go_at_call 88; (refine (isPairSize_any _ _).mono ?_); (rintro e w' ⟨rfl, rfl⟩); (rw [hn])) | fail)
    go_ret2
    exact ⟨ret_bb9 HR.out.symm HK.out.symm, Below.refl _ _⟩
  | true =>
    have h0 := inB_iff.1 hn
    obtain ⟨m, rfl⟩ : ∃ m : Nat, n = (m : Int) := ⟨n.toNat, by omega⟩
    have HN := hid hn
    cases hw : suWB xs with
    | false =>
      have HK := hid ((prOk_r (xs := xs) hn).trans hw)
      have HR := hid (ipR_no HK.out)
      go_enter Try.func35, Try.ntmps35
      go_wp2_with (first | (go_at_call 88; (refine (isPairSize_any _ _).mono ?_); (rintro e w' ⟨rfl, rfl⟩); (rw [HN.out])) | (go_at_call 89; (refine (isSuperWord_any _ xs _ HS.out).mono ?_); (rintro e w' ⟨rfl, rfl⟩); (rw [hw])) | fail)
      go_ret2
      exact ⟨ret_bb9 HR.out.symm HK.out.symm, Below.refl _ _⟩
    | true =>
      have HK := hid ((prOk_r (xs := xs) hn).trans hw)
      have HR := hid (ipR_yes HK.out)
      have hl2 := suWB_len hw
      obtain ⟨N, hN⟩ : ∃ N, N = m * (m - 1) / 2 := ⟨_, rfl⟩
      have HNN := hid hN
      have hc2 := (chooseZ_two m (by omega) (by omega)).2
      rw [← hN] at hc2
      have HN1 := hid hc2.1
      have HN2 := hid (show N ≤ 200 by omega)
      clear hc2 hN
      go_enter Try.func35, Try.ntmps35
      go_wp2_with (first
        | (go_at_call 88; (refine (isPairSize_any _ _).mono ?_); (rintro e w' ⟨rfl, rfl⟩); (rw [HN.out]))
        | (go_at_call 89; (refine (isSuperWord_any _ xs _ HS.out).mono ?_); (rintro e w' ⟨rfl, rfl⟩); (rw [hw]))
        | (go_at_call 91; (refine (ind_P (rkP m) (okP m) g N _ (winL (upTo N) 2) xs ⟨w.heap.size, 0, none⟩ _ (by rw [winL_len, upTo_length]) HL1.out (HS.out.below HB1.out) HN2.out HN1.out (win_placed (by omega) (by omega) HN1.out) (fun l hl => rkP_wf HN.out _) hl2 (pair_clo HWF.out HNW.out HC1.out HSZ.out)).mono ?_); (rintro e w2 ⟨rfl, _, hb2⟩); (rw [prB_ly HN.out HNN.out]); (have HB2 := hid (Below_chain HB1.out hb2)); (clear hb2))
        | (go_at_call 90; (refine (pairsOf_any m N _ HN.out HNN.out).mono ?_); (rintro e w1 ⟨g, rfl, hl1, hc1, hs1, hb1⟩); (have HL1 := hid hl1); (have HC1 := hid hc1); (have HSZ := hid hs1); (have HB1 := hid hb1); (clear hl1 hc1 hs1 hb1))
        | fail)
      go_ret2
      exact ⟨ret_bb9 HR.out.symm HK.out.symm, HB2.out⟩
end Go.Proofs.Yteimfdpkodcfbaa
