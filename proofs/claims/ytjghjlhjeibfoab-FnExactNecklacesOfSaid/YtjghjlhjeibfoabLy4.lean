/- Contracts: root lengths (lyRoot, rootLength), necklaces and Lyndon words (lyNecklace, isNecklace, lyLyndon, isLyndon, isLyndonWord). Conditions: slices that are not nil and read as lists of 1 to 24 letters in 0..5. -/
import Derived.Test.YtjghjlhjeibfoabLy3
namespace Go.Proofs.Ytjghjlhjeibfoab
open Go.RowKit
set_option linter.unusedVariables false
set_option maxRecDepth 4000

theorem rot_next {xs : List Int} {p : Nat} (h : ∀ i, 1 ≤ i → i < p → rotB xs i = false) (h2 : rotB xs p = false) : ∀ i, 1 ≤ i → i < p + 1 → rotB xs i = false := fun i h3 h4 => by
  by_cases e : i = p
  · rw [e]; exact h2
  · exact h i h3 (by omega)
theorem rot_more {xs : List Int} {p : Nat} (hp : p ≤ xs.length) (h2 : rotB xs p = false) : p + 1 ≤ xs.length := by
  by_cases e : p = xs.length
  · rw [e, rotB_all] at h2; cases h2
  · omega
theorem neckB_iff {xs : List Int} : neckB xs = ((leastL xs : Int) == 0) := by
  unfold neckB
  cases h : leastL xs with
  | zero => rfl
  | succ n => simp; omega
set_option maxHeartbeats 1000000 in
theorem lyRoot_any (v : Value) (xs : List Int) (w : World) (h : Sits w v xs) (h1 : 1 ≤ xs.length) (hl : xs.length ≤ 24) :
    Calls Try.prog 65 #[v] w fun e w' => e = .returned (.int .i64 (rootL xs : Int)) ∧ Below w.heap.size w w' := by
  have HS := hid h
  obtain ⟨b, off, c, rfl, hc1, hm, hb, hc⟩ := h
  have hlb : xs.length ≤ 1048576 := by omega
  clear hc
  go_enter Try.func65, Try.ntmps65
  go_wp2_with fail
  go_loopw [3] (fun pv wr => ∃ p : Nat, pv = .int .i64 (p : Int) ∧ 1 ≤ p ∧ p ≤ xs.length ∧ (∀ i, 1 ≤ i → i < p → rotB xs i = false) ∧ Below w.heap.size w wr) (fun i _ => xs.length - (intOf i).toNat)
  case atStart => exact ⟨1, rfl, Nat.le_refl _, h1, fun i _ _ => by omega, Below.refl _ _⟩
  case round =>
    obtain ⟨p, rfl, hp1, hp, hno, hbel⟩ := hrel
    have HB := hid hbel
    have HNO := hid hno
    have HSW := hid (HS.out.below hbel)
    have hpb : p ≤ 1048576 := by omega
    obtain ⟨r, hr⟩ : ∃ r, r = xs.length % p := ⟨_, rfl⟩
    have HRE := hid hr
    have u1 : (xs.length : Int) % (p : Int) = (r : Int) := by rw [hr]; simp
    have u2 : (xs.length : Int).tmod (p : Int) = (r : Int) := by rw [Int.tmod_eq_emod_of_nonneg (by omega)]; exact u1
    have u3 : ((p : Int) == 0) = false := beq_eq_false_iff_ne.2 (by omega)
    have hrl : r < 24 := by rw [hr]; have := Nat.mod_lt xs.length (show p > 0 by omega); omega
    clear hbel hno hr
    cases hrb : rotB xs p with
    | true =>
      have HF := hid (rootL_is hp1 hp hrb HNO.out)
      have hr0 : r = 0 := by rw [HRE.out]; exact root_div hp1 hrb HNO.out
      subst hr0
      have hrb2 : decide (arL xs p xs.length = xs) = true := hrb
      have HRB := hid hrb2
      clear hrb hrb2
      go_wp2_with (first
        | (go_at_call 79; (refine (lyRotate_any _ xs p _ HSW.out hpb h1 hlb).mono ?_); (rintro e w1 ⟨g1, c1, rfl, ho1, hb1⟩); (have HO1 := hid ho1); (have HSW1 := hid (HSW.out.below hb1)); (have HB1 := hid (Below_chain HB.out hb1)); (clear ho1 hb1))
        | (go_at_call 78; (refine (l1Same_any _ _ _ _ _ HO1.out.reads HSW1.out.reads).mono ?_); (rintro e w2 ⟨rfl, hb2⟩); (rw [HRB.out]); (have HB2 := hid (Below_chain HB1.out hb2)); (clear hb2))
        | fail)
      go_ret
      exact ⟨ret_int (by rw [HF.out]), HB2.out⟩
    | false =>
      have HN := hid (rot_next HNO.out hrb)
      have HM := hid (rot_more hp hrb)
      have hrb2 : decide (arL xs p xs.length = xs) = false := hrb
      have HRB := hid hrb2
      clear hrb hrb2
      by_cases hr0 : r = 0
      · subst hr0
        go_wp2_with (first
          | (go_at_call 79; (refine (lyRotate_any _ xs p _ HSW.out hpb h1 hlb).mono ?_); (rintro e w1 ⟨g1, c1, rfl, ho1, hb1⟩); (have HO1 := hid ho1); (have HSW1 := hid (HSW.out.below hb1)); (have HB1 := hid (Below_chain HB.out hb1)); (clear ho1 hb1))
          | (go_at_call 78; (refine (l1Same_any _ _ _ _ _ HO1.out.reads HSW1.out.reads).mono ?_); (rintro e w2 ⟨rfl, hb2⟩); (rw [HRB.out]); (have HB2 := hid (Below_chain HB1.out hb2)); (clear hb2))
          | fail)
        go_roundw
        case rel => exact ⟨p + 1, by go_num, by omega, HM.out, HN.out, HB2.out⟩
        case measure => simp [intOf]; have := HM.out; omega
      · have u4 : ((r : Int) != 0) = true := by simp; omega
        clear hr0
        go_wp2_with fail
        go_roundw
        case rel => exact ⟨p + 1, by go_num, by omega, HM.out, HN.out, HB.out⟩
        case measure => simp [intOf]; have := HM.out; omega
set_option maxHeartbeats 1000000 in
theorem rootLength_any (v : Value) (xs : List Int) (w : World) (h : Sits w v xs) (h1 : 1 ≤ xs.length) (hl : xs.length ≤ 24) :
    Calls Try.prog 81 #[v] w fun e w' => e = .returned (.int .i64 (rootL xs : Int)) ∧ Below w.heap.size w w' := by
  have HS := hid h
  obtain ⟨b, off, c, rfl, hc1, hm, hb, hc⟩ := h
  have hlb : xs.length ≤ 1048576 := by omega
  clear hc
  go_enter Try.func81, Try.ntmps81
  go_wp2_with fail
  go_loopw [3] (fun pv wr => ∃ p : Nat, pv = .int .i64 (p : Int) ∧ 1 ≤ p ∧ p ≤ xs.length ∧ (∀ i, 1 ≤ i → i < p → rotB xs i = false) ∧ Below w.heap.size w wr) (fun i _ => xs.length - (intOf i).toNat)
  case atStart => exact ⟨1, rfl, Nat.le_refl _, h1, fun i _ _ => by omega, Below.refl _ _⟩
  case round =>
    obtain ⟨p, rfl, hp1, hp, hno, hbel⟩ := hrel
    have HB := hid hbel
    have HNO := hid hno
    have HSW := hid (HS.out.below hbel)
    have hpb : p ≤ 1048576 := by omega
    clear hbel hno
    cases hrb : rotB xs p with
    | true =>
      have HF := hid (rootL_is hp1 hp hrb HNO.out)
      have hrb2 : decide (arL xs p xs.length = xs) = true := hrb
      have HRB := hid hrb2
      clear hrb hrb2
      go_wp2_with (first
        | (go_at_call 85; (refine (rotated_any _ xs p _ HSW.out hpb h1 hlb).mono ?_); (rintro e w1 ⟨rfl, ho1, hb1⟩); (have HO1 := hid ho1); (have HSW1 := hid (HSW.out.below hb1)); (have HB1 := hid (Below_chain HB.out hb1)); (clear ho1 hb1))
        | (go_at_call 84; (refine (Equal_any _ _ _ _ _ HO1.out.reads HSW1.out.reads).mono ?_); (rintro e w2 ⟨rfl, hb2⟩); (rw [HRB.out]); (have HB2 := hid (Below_chain HB1.out hb2)); (clear hb2))
        | fail)
      go_ret
      exact ⟨ret_int (by rw [HF.out]), HB2.out⟩
    | false =>
      have HN := hid (rot_next HNO.out hrb)
      have HM := hid (rot_more hp hrb)
      have hrb2 : decide (arL xs p xs.length = xs) = false := hrb
      have HRB := hid hrb2
      clear hrb hrb2
      go_wp2_with (first
        | (go_at_call 85; (refine (rotated_any _ xs p _ HSW.out hpb h1 hlb).mono ?_); (rintro e w1 ⟨rfl, ho1, hb1⟩); (have HO1 := hid ho1); (have HSW1 := hid (HSW.out.below hb1)); (have HB1 := hid (Below_chain HB.out hb1)); (clear ho1 hb1))
        | (go_at_call 84; (refine (Equal_any _ _ _ _ _ HO1.out.reads HSW1.out.reads).mono ?_); (rintro e w2 ⟨rfl, hb2⟩); (rw [HRB.out]); (have HB2 := hid (Below_chain HB1.out hb2)); (clear hb2))
        | fail)
      go_roundw
      case rel => exact ⟨p + 1, by go_num, by omega, HM.out, HN.out, HB2.out⟩
      case measure => simp [intOf]; have := HM.out; omega
theorem lyNecklace_any (v : Value) (xs : List Int) (w : World) (h : Sits w v xs) (h1 : 1 ≤ xs.length) (hl : xs.length ≤ 24) (hs : smallL xs) :
    Calls Try.prog 64 #[v] w fun e w' => e = .returned (.bool (neckB xs)) ∧ Below w.heap.size w w' := by
  have HF := hid (neckB_iff (xs := xs))
  go_enter Try.func64, Try.ntmps64
  go_wp2_with (first | (go_at_call 77; (refine (lyLeast_any _ xs _ h h1 hl hs).mono ?_); (rintro e w1 ⟨rfl, hb1⟩); (have HB1 := hid hb1); (clear hb1)) | fail)
  go_ret
  exact ⟨ret_bool HF.out.symm, HB1.out⟩
theorem isNecklace_any (v : Value) (xs : List Int) (w : World) (h : Sits w v xs) (h1 : 1 ≤ xs.length) (hl : xs.length ≤ 24) :
    Calls Try.prog 80 #[v] w fun e w' => e = .returned (.bool (neckB xs)) ∧ Below w.heap.size w w' := by
  have HF := hid (neckB_iff (xs := xs))
  go_enter Try.func80, Try.ntmps80
  go_wp2_with (first | (go_at_call 83; (refine (leastRotation_any _ xs _ h h1 hl).mono ?_); (rintro e w1 ⟨g1, c1, rfl, ho1, hb1⟩); (have HB1 := hid hb1); (clear ho1 hb1)) | fail)
  go_ret
  exact ⟨ret_bool HF.out.symm, HB1.out⟩
theorem lyLyndon_any (v : Value) (xs : List Int) (w : World) (h : Sits w v xs) (h1 : 1 ≤ xs.length) (hl : xs.length ≤ 24) (hs : smallL xs) :
    Calls Try.prog 38 #[v] w fun e w' => e = .returned (.bool (lynB xs)) ∧ Below w.heap.size w w' := by
  have HS := hid h
  obtain ⟨b, off, c, rfl, hc1, hm, hb, hc⟩ := h
  clear hc
  cases hn : neckB xs with
  | true =>
    have HF := hid (show lynB xs = ((rootL xs : Int) == (xs.length : Int)) by
      unfold lynB; rw [hn, Bool.true_and]
      by_cases e : rootL xs = xs.length
      · rw [decide_eq_true e, e]; simp
      · rw [decide_eq_false e]; exact (beq_eq_false_iff_ne.2 (by omega)).symm)
    go_enter Try.func38, Try.ntmps38
    go_wp2_with (first
      | (go_at_call 64; (refine (lyNecklace_any _ xs _ HS.out h1 hl hs).mono ?_); (rintro e w1 ⟨rfl, hb1⟩); (rw [hn]); (have HB1 := hid hb1); (clear hb1))
      | (go_at_call 65; (refine (lyRoot_any _ xs _ (HS.out.below HB1.out) h1 hl).mono ?_); (rintro e w2 ⟨rfl, hb2⟩); (have HB2 := hid (Below_chain HB1.out hb2)); (clear hb2))
      | fail)
    go_ret
    exact ⟨ret_bool HF.out.symm, HB2.out⟩
  | false =>
    have HF := hid (show lynB xs = false by unfold lynB; rw [hn, Bool.false_and])
    go_enter Try.func38, Try.ntmps38
    go_wp2_with (first
      | (go_at_call 64; (refine (lyNecklace_any _ xs _ HS.out h1 hl hs).mono ?_); (rintro e w1 ⟨rfl, hb1⟩); (rw [hn]); (have HB1 := hid hb1); (clear hb1))
      | fail)
    go_ret
    exact ⟨ret_bool HF.out.symm, HB1.out⟩
theorem isLyndon_any (v : Value) (xs : List Int) (w : World) (h : Sits w v xs) (h1 : 1 ≤ xs.length) (hl : xs.length ≤ 24) :
    Calls Try.prog 68 #[v] w fun e w' => e = .returned (.bool (lynB xs)) ∧ Below w.heap.size w w' := by
  have HS := hid h
  obtain ⟨b, off, c, rfl, hc1, hm, hb, hc⟩ := h
  clear hc
  cases hn : neckB xs with
  | true =>
    have HF := hid (show lynB xs = ((rootL xs : Int) == (xs.length : Int)) by
      unfold lynB; rw [hn, Bool.true_and]
      by_cases e : rootL xs = xs.length
      · rw [decide_eq_true e, e]; simp
      · rw [decide_eq_false e]; exact (beq_eq_false_iff_ne.2 (by omega)).symm)
    go_enter Try.func68, Try.ntmps68
    go_wp2_with (first
      | (go_at_call 80; (refine (isNecklace_any _ xs _ HS.out h1 hl).mono ?_); (rintro e w1 ⟨rfl, hb1⟩); (rw [hn]); (have HB1 := hid hb1); (clear hb1))
      | (go_at_call 81; (refine (rootLength_any _ xs _ (HS.out.below HB1.out) h1 hl).mono ?_); (rintro e w2 ⟨rfl, hb2⟩); (have HB2 := hid (Below_chain HB1.out hb2)); (clear hb2))
      | fail)
    go_ret
    exact ⟨ret_bool HF.out.symm, HB2.out⟩
  | false =>
    have HF := hid (show lynB xs = false by unfold lynB; rw [hn, Bool.false_and])
    go_enter Try.func68, Try.ntmps68
    go_wp2_with (first
      | (go_at_call 80; (refine (isNecklace_any _ xs _ HS.out h1 hl).mono ?_); (rintro e w1 ⟨rfl, hb1⟩); (rw [hn]); (have HB1 := hid hb1); (clear hb1))
      | fail)
    go_ret
    exact ⟨ret_bool HF.out.symm, HB1.out⟩
theorem isLyndonWord_any (v : Value) (xs : List Int) (w : World) (h : Sits w v xs) :
    Calls Try.prog 40 #[v] w fun e w' => e = .returned (.bool (lyW xs && lynB xs)) ∧ Below w.heap.size w w' := by
  have HS := hid h
  cases hn : lyW xs with
  | true =>
    have h12 := (lyW_small hn).1
    obtain ⟨h1, h2⟩ := h12
    go_enter Try.func40, Try.ntmps40
    go_wp2_with (first
      | (go_at_call 61; (refine (impl_IsWord_any _ xs _ HS.out.reads).mono ?_); (rintro e w1 ⟨rfl, rfl⟩); (rw [hn]))
      | (go_at_call 68; (refine (isLyndon_any _ xs _ HS.out h1 h2).mono ?_); (rintro e w2 ⟨rfl, hb2⟩); (have HB2 := hid hb2); (clear hb2))
      | fail)
    go_ret
    exact ⟨rfl, HB2.out⟩
  | false =>
    go_enter Try.func40, Try.ntmps40
    go_wp2_with (first
      | (go_at_call 61; (refine (impl_IsWord_any _ xs _ HS.out.reads).mono ?_); (rintro e w1 ⟨rfl, rfl⟩); (rw [hn]))
      | fail)
    go_ret
    exact ⟨rfl, Below.refl _ _⟩
end Go.Proofs.Ytjghjlhjeibfoab
