/- Contracts: firstFactor, secondFactor, lyHalf. Conditions: slices that are not nil and read as lists of 1 to 24 letters in 0..5. -/
import Derived.Test.YtjghjlhjeibfoabLy4
namespace Go.Proofs.Ytjghjlhjeibfoab
open Go.RowKit
set_option linter.unusedVariables false
set_option maxRecDepth 4000

theorem smallL_take {xs : List Int} (h : smallL xs) (k : Nat) : smallL (xs.take k) := by
  intro i hi
  have h1 : i < xs.length := by simp at hi; omega
  have h2 : (xs.take k).getD i 0 = xs.getD i 0 := by
    simp at hi
    rw [List.getD_eq_getElem?_getD, List.getD_eq_getElem?_getD, List.getElem?_take_of_lt (by omega)]
  rw [h2]; exact h i h1
theorem smallL_drop {xs : List Int} (h : smallL xs) (k : Nat) : smallL (xs.drop k) := by
  intro i hi
  have h1 : k + i < xs.length := by simp at hi; omega
  have h2 : (xs.drop k).getD i 0 = xs.getD (k + i) 0 := by
    simp [List.getD_eq_getElem?_getD, List.getElem?_drop]
  rw [h2]; exact h _ h1
theorem ff_stop {xs : List Int} {q : Nat} (h1 : 1 ≤ q) (h2 : q ≤ xs.length) (h3 : lynB (xs.take q) = true) (h4 : ∀ i, q < i → i ≤ xs.length → lynB (xs.take i) = false) : q = ffL xs := (ffL_is h1 h2 h3 h4).symm
theorem ff_next {xs : List Int} {q : Nat} (h2 : q ≤ xs.length) (h3 : lynB (xs.take q) = false) (h4 : ∀ i, q < i → i ≤ xs.length → lynB (xs.take i) = false) : ∀ i, q - 1 < i → i ≤ xs.length → lynB (xs.take i) = false := fun i h5 h6 => by
  by_cases e : i = q
  · rw [e]; exact h3
  · exact h4 i (by omega) h6
theorem ff_more {xs : List Int} {q : Nat} (h1 : 1 ≤ q) (h2 : q ≤ xs.length) (h3 : lynB (xs.take q) = false) : 2 ≤ q := by
  by_cases e : q = 1
  · subst e
    rw [lynB_len1 (by simp; omega)] at h3; cases h3
  · omega
theorem hf_stop {xs : List Int} {q : Nat} (h1 : 1 ≤ q) (h2 : q < xs.length) (h3 : lynB (xs.drop q) = true) (h4 : ∀ i, 1 ≤ i → i < q → lynB (xs.drop i) = false) : q = hfL xs := (hfL_is h1 h2 h3 h4).symm
theorem hf_next {xs : List Int} {q : Nat} (h3 : lynB (xs.drop q) = false) (h4 : ∀ i, 1 ≤ i → i < q → lynB (xs.drop i) = false) : ∀ i, 1 ≤ i → i < q + 1 → lynB (xs.drop i) = false := fun i h5 h6 => by
  by_cases e : i = q
  · rw [e]; exact h3
  · exact h4 i h5 (by omega)
theorem hf_more {xs : List Int} {q : Nat} (h2 : q < xs.length) (h3 : lynB (xs.drop q) = false) : q + 1 < xs.length := by
  by_cases e : q + 1 = xs.length
  · rw [lynB_len1 (by simp; omega)] at h3; cases h3
  · omega
set_option maxHeartbeats 1000000 in
theorem secondFactor_any (v : Value) (xs : List Int) (w : World) (h : Sits w v xs) (h1 : 2 ≤ xs.length) (hl : xs.length ≤ 24) :
    Calls Try.prog 69 #[v] w fun e w' => e = .returned (.int .i64 (hfL xs : Int)) ∧ Below w.heap.size w w' := by
  obtain ⟨b, off, c, rfl, hc1, hm, hb, hc⟩ := h
  have HT := hid (fun (k : Nat) (hk : k ≤ xs.length) => Sits_drop (w := w) (off := off) k hk hc1 hm hb hc)
  clear hc
  go_enter Try.func69, Try.ntmps69
  go_wp2_with fail
  go_loopw [3] (fun pv wr => ∃ q : Nat, pv = .int .i64 (q : Int) ∧ 1 ≤ q ∧ q < xs.length ∧ (∀ i, 1 ≤ i → i < q → lynB (xs.drop i) = false) ∧ Below w.heap.size w wr) (fun i _ => xs.length - (intOf i).toNat)
  case atStart => exact ⟨1, rfl, Nat.le_refl _, by omega, fun i h1 h2 => by omega, Below.refl _ _⟩
  case round =>
    obtain ⟨q, rfl, hq1, hq, hno, hbel⟩ := hrel
    have HB := hid hbel
    have HNO := hid hno
    have HTW := hid ((HT.out q (by omega)).below hbel)
    have HLT := hid (show (xs.drop q).length = xs.length - q by simp)
    have p1 : (0 : Int) ≤ (q : Int) := by omega
    have p2 : (q : Int) ≤ (c : Int) := by omega
    have p3 : (q : Int) ≤ (xs.length : Int) := by omega
    have p5 : (xs.length : Int) ≤ (c : Int) := by omega
    have p6 : q ≤ c := by omega
    have p7 : ¬ c = q := by omega
    have p8 : q < c := by omega
    have p9 : q ≤ xs.length := by omega
    clear hbel hno
    cases hly : lynB (xs.drop q) with
    | true =>
      have HF := hid (hf_stop hq1 hq hly HNO.out)
      have HLY := hid hly
      clear hly
      go_wp2_with (first
        | (go_at_call 68; (refine (isLyndon_any _ (xs.drop q) _ HTW.out (by rw [HLT.out]; omega) (by rw [HLT.out]; omega)).mono ?_); (rintro e w1 ⟨rfl, hb1⟩); (rw [HLY.out]); (have HB1 := hid (Below_chain HB.out hb1)); (clear hb1))
        | fail)
      go_ret
      exact ⟨ret_int (by rw [← HF.out]), HB1.out⟩
    | false =>
      have HN := hid (hf_next hly HNO.out)
      have HM := hid (hf_more hq hly)
      have hm2 := HM.out
      have HLY := hid hly
      clear hly
      go_wp2_with (first
        | (go_at_call 68; (refine (isLyndon_any _ (xs.drop q) _ HTW.out (by rw [HLT.out]; omega) (by rw [HLT.out]; omega)).mono ?_); (rintro e w1 ⟨rfl, hb1⟩); (rw [HLY.out]); (have HB1 := hid (Below_chain HB.out hb1)); (clear hb1))
        | fail)
      go_roundw
      case rel => exact ⟨q + 1, by go_num, by omega, by omega, HN.out, HB1.out⟩
      case measure => simp [intOf]; omega
set_option maxHeartbeats 1000000 in
theorem lyHalf_any (v : Value) (xs : List Int) (w : World) (h : Sits w v xs) (h1 : 2 ≤ xs.length) (hl : xs.length ≤ 24) (hs : smallL xs) :
    Calls Try.prog 67 #[v] w fun e w' => e = .returned (.int .i64 (hfL xs : Int)) ∧ Below w.heap.size w w' := by
  obtain ⟨b, off, c, rfl, hc1, hm, hb, hc⟩ := h
  have HT := hid (fun (k : Nat) (hk : k ≤ xs.length) => Sits_drop (w := w) (off := off) k hk hc1 hm hb hc)
  have HSM := hid (fun k => smallL_drop hs k)
  clear hc hs
  go_enter Try.func67, Try.ntmps67
  go_wp2_with fail
  go_loopw [3] (fun pv wr => ∃ q : Nat, pv = .int .i64 (q : Int) ∧ 1 ≤ q ∧ q < xs.length ∧ (∀ i, 1 ≤ i → i < q → lynB (xs.drop i) = false) ∧ Below w.heap.size w wr) (fun i _ => xs.length - (intOf i).toNat)
  case atStart => exact ⟨1, rfl, Nat.le_refl _, by omega, fun i h1 h2 => by omega, Below.refl _ _⟩
  case round =>
    obtain ⟨q, rfl, hq1, hq, hno, hbel⟩ := hrel
    have HB := hid hbel
    have HNO := hid hno
    have HTW := hid ((HT.out q (by omega)).below hbel)
    have HLT := hid (show (xs.drop q).length = xs.length - q by simp)
    have p1 : (0 : Int) ≤ (q : Int) := by omega
    have p2 : (q : Int) ≤ (c : Int) := by omega
    have p3 : (q : Int) ≤ (xs.length : Int) := by omega
    have p5 : (xs.length : Int) ≤ (c : Int) := by omega
    have p6 : q ≤ c := by omega
    have p7 : ¬ c = q := by omega
    have p8 : q < c := by omega
    have p9 : q ≤ xs.length := by omega
    clear hbel hno
    cases hly : lynB (xs.drop q) with
    | true =>
      have HF := hid (hf_stop hq1 hq hly HNO.out)
      have HLY := hid hly
      clear hly
      go_wp2_with (first
        | (go_at_call 38; (refine (lyLyndon_any _ (xs.drop q) _ HTW.out (by rw [HLT.out]; omega) (by rw [HLT.out]; omega) (HSM.out q)).mono ?_); (rintro e w1 ⟨rfl, hb1⟩); (rw [HLY.out]); (have HB1 := hid (Below_chain HB.out hb1)); (clear hb1))
        | fail)
      go_ret
      exact ⟨ret_int (by rw [← HF.out]), HB1.out⟩
    | false =>
      have HN := hid (hf_next hly HNO.out)
      have HM := hid (hf_more hq hly)
      have hm2 := HM.out
      have HLY := hid hly
      clear hly
      go_wp2_with (first
        | (go_at_call 38; (refine (lyLyndon_any _ (xs.drop q) _ HTW.out (by rw [HLT.out]; omega) (by rw [HLT.out]; omega) (HSM.out q)).mono ?_); (rintro e w1 ⟨rfl, hb1⟩); (rw [HLY.out]); (have HB1 := hid (Below_chain HB.out hb1)); (clear hb1))
        | fail)
      go_roundw
      case rel => exact ⟨q + 1, by go_num, by omega, by omega, HN.out, HB1.out⟩
      case measure => simp [intOf]; omega
end Go.Proofs.Ytjghjlhjeibfoab
