/- Contracts of the exported functions on words and of their models: IsWord, RotateWord, LeastRotation, RootLength, IsNecklace, IsLyndon. Conditions: slices that are not nil and read as lists of at most 2^20 numbers. -/
import Derived.Test.YtjghjlhjeibfoaaLy4
namespace Go.Proofs.Ytjghjlhjeibfoaa
open Go.RowKit
set_option linter.unusedVariables false
set_option maxRecDepth 4000

theorem law_spec_IsWord (v : Value) (xs : List Int) (w : World) (h : Sits w v xs) (hl : xs.length ≤ 1048576) (_hwf : ∀ x ∈ xs, (Lit.int .i64 x).wf = true) :
    Calls Try.prog 12 #[v] w fun e w' => e = .returned (.bool (lyW xs)) ∧ Below w.heap.size w w' :=
  (spec_IsWord_any v xs w h).mono fun e w' hh => ⟨hh.1, by rw [← hh.2]; exact Below.refl _ _⟩
theorem law_impl_IsWord (v : Value) (xs : List Int) (w : World) (h : Sits w v xs) (hl : xs.length ≤ 1048576) (_hwf : ∀ x ∈ xs, (Lit.int .i64 x).wf = true) :
    Calls Try.prog 14 #[v] w fun e w' => e = .returned (.bool (lyW xs)) ∧ Below w.heap.size w w' :=
  (impl_IsWord_any v xs w h.reads).mono fun e w' hh => ⟨hh.1, by rw [← hh.2]; exact Below.refl _ _⟩
/-- what a function answers at a list that is no word: d -/
def atW {T : Type} (xs : List Int) (d r : T) : T := if lyW xs = true then r else d
theorem atW_yes {T : Type} {xs : List Int} {d r : T} (h : lyW xs = true) : atW xs d r = r := by unfold atW; rw [if_pos h]
theorem atW_no {T : Type} {xs : List Int} {d r : T} (h : lyW xs = false) : atW xs d r = d := by unfold atW; rw [if_neg (by rw [h]; simp)]
theorem law_spec_RootLength (v : Value) (xs : List Int) (w : World) (h : Sits w v xs) (hl : xs.length ≤ 1048576) (_hwf : ∀ x ∈ xs, (Lit.int .i64 x).wf = true) :
    Calls Try.prog 22 #[v] w fun e w' => e = .returned (.tuple #[.int .i64 (atW xs 0 (rootL xs : Int)), .bool (lyW xs)]) ∧ Below w.heap.size w w' := by
  have HS := hid h
  cases hn : lyW xs with
  | false =>
    have HF := hid (atW_no (d := 0) (r := (rootL xs : Int)) hn)
    go_enter Try.func22, Try.ntmps22
    go_wp2_with (first | (go_at_call 37; (refine (lyWord_any _ xs _ HS.out).mono ?_); (rintro e w1 ⟨rfl, rfl⟩); (rw [hn])) | fail)
    go_ret2
    exact ⟨by rw [HF.out]; rfl, Below.refl _ _⟩
  | true =>
    have HF := hid (atW_yes (d := 0) (r := (rootL xs : Int)) hn)
    obtain ⟨⟨h1, h2⟩, hs⟩ := lyW_small hn
    go_enter Try.func22, Try.ntmps22
    go_wp2_with (first
      | (go_at_call 37; (refine (lyWord_any _ xs _ HS.out).mono ?_); (rintro e w1 ⟨rfl, rfl⟩); (rw [hn]))
      | (go_at_call 44; (refine (lyRoot_any _ xs _ HS.out h1 h2).mono ?_); (rintro e w2 ⟨rfl, hb2⟩); (have HB2 := hid hb2); (clear hb2))
      | fail)
    go_ret2
    exact ⟨by rw [HF.out]; rfl, HB2.out⟩
theorem law_impl_RootLength (v : Value) (xs : List Int) (w : World) (h : Sits w v xs) (hl : xs.length ≤ 1048576) (_hwf : ∀ x ∈ xs, (Lit.int .i64 x).wf = true) :
    Calls Try.prog 23 #[v] w fun e w' => e = .returned (.tuple #[.int .i64 (atW xs 0 (rootL xs : Int)), .bool (lyW xs)]) ∧ Below w.heap.size w w' := by
  have HS := hid h
  cases hn : lyW xs with
  | false =>
    have HF := hid (atW_no (d := 0) (r := (rootL xs : Int)) hn)
    go_enter Try.func23, Try.ntmps23
    go_wp2_with (first | (go_at_call 14; (refine (impl_IsWord_any _ xs _ HS.out.reads).mono ?_); (rintro e w1 ⟨rfl, rfl⟩); (rw [hn])) | fail)
    go_ret2
    exact ⟨by rw [HF.out]; rfl, Below.refl _ _⟩
  | true =>
    have HF := hid (atW_yes (d := 0) (r := (rootL xs : Int)) hn)
    obtain ⟨⟨h1, h2⟩, hs⟩ := lyW_small hn
    go_enter Try.func23, Try.ntmps23
    go_wp2_with (first
      | (go_at_call 14; (refine (impl_IsWord_any _ xs _ HS.out.reads).mono ?_); (rintro e w1 ⟨rfl, rfl⟩); (rw [hn]))
      | (go_at_call 45; (refine (rootLength_any _ xs _ HS.out h1 h2).mono ?_); (rintro e w2 ⟨rfl, hb2⟩); (have HB2 := hid hb2); (clear hb2))
      | fail)
    go_ret2
    exact ⟨by rw [HF.out]; rfl, HB2.out⟩
theorem law_spec_IsNecklace (v : Value) (xs : List Int) (w : World) (h : Sits w v xs) (hl : xs.length ≤ 1048576) (_hwf : ∀ x ∈ xs, (Lit.int .i64 x).wf = true) :
    Calls Try.prog 24 #[v] w fun e w' => e = .returned (.tuple #[.bool (atW xs false (neckB xs)), .bool (lyW xs)]) ∧ Below w.heap.size w w' := by
  have HS := hid h
  cases hn : lyW xs with
  | false =>
    have HF := hid (atW_no (d := false) (r := (neckB xs)) hn)
    go_enter Try.func24, Try.ntmps24
    go_wp2_with (first | (go_at_call 37; (refine (lyWord_any _ xs _ HS.out).mono ?_); (rintro e w1 ⟨rfl, rfl⟩); (rw [hn])) | fail)
    go_ret2
    exact ⟨by rw [HF.out]; rfl, Below.refl _ _⟩
  | true =>
    have HF := hid (atW_yes (d := false) (r := (neckB xs)) hn)
    obtain ⟨⟨h1, h2⟩, hs⟩ := lyW_small hn
    go_enter Try.func24, Try.ntmps24
    go_wp2_with (first
      | (go_at_call 37; (refine (lyWord_any _ xs _ HS.out).mono ?_); (rintro e w1 ⟨rfl, rfl⟩); (rw [hn]))
      | (go_at_call 46; (refine (lyNecklace_any _ xs _ HS.out h1 h2 hs).mono ?_); (rintro e w2 ⟨rfl, hb2⟩); (have HB2 := hid hb2); (clear hb2))
      | fail)
    go_ret2
    exact ⟨by rw [HF.out]; rfl, HB2.out⟩
theorem law_impl_IsNecklace (v : Value) (xs : List Int) (w : World) (h : Sits w v xs) (hl : xs.length ≤ 1048576) (_hwf : ∀ x ∈ xs, (Lit.int .i64 x).wf = true) :
    Calls Try.prog 25 #[v] w fun e w' => e = .returned (.tuple #[.bool (atW xs false (neckB xs)), .bool (lyW xs)]) ∧ Below w.heap.size w w' := by
  have HS := hid h
  cases hn : lyW xs with
  | false =>
    have HF := hid (atW_no (d := false) (r := (neckB xs)) hn)
    go_enter Try.func25, Try.ntmps25
    go_wp2_with (first | (go_at_call 14; (refine (impl_IsWord_any _ xs _ HS.out.reads).mono ?_); (rintro e w1 ⟨rfl, rfl⟩); (rw [hn])) | fail)
    go_ret2
    exact ⟨by rw [HF.out]; rfl, Below.refl _ _⟩
  | true =>
    have HF := hid (atW_yes (d := false) (r := (neckB xs)) hn)
    obtain ⟨⟨h1, h2⟩, hs⟩ := lyW_small hn
    go_enter Try.func25, Try.ntmps25
    go_wp2_with (first
      | (go_at_call 14; (refine (impl_IsWord_any _ xs _ HS.out.reads).mono ?_); (rintro e w1 ⟨rfl, rfl⟩); (rw [hn]))
      | (go_at_call 47; (refine (isNecklace_any _ xs _ HS.out h1 h2).mono ?_); (rintro e w2 ⟨rfl, hb2⟩); (have HB2 := hid hb2); (clear hb2))
      | fail)
    go_ret2
    exact ⟨by rw [HF.out]; rfl, HB2.out⟩
theorem law_spec_IsLyndon (v : Value) (xs : List Int) (w : World) (h : Sits w v xs) (hl : xs.length ≤ 1048576) (_hwf : ∀ x ∈ xs, (Lit.int .i64 x).wf = true) :
    Calls Try.prog 26 #[v] w fun e w' => e = .returned (.tuple #[.bool (atW xs false (lynB xs)), .bool (lyW xs)]) ∧ Below w.heap.size w w' := by
  have HS := hid h
  cases hn : lyW xs with
  | false =>
    have HF := hid (atW_no (d := false) (r := (lynB xs)) hn)
    go_enter Try.func26, Try.ntmps26
    go_wp2_with (first | (go_at_call 37; (refine (lyWord_any _ xs _ HS.out).mono ?_); (rintro e w1 ⟨rfl, rfl⟩); (rw [hn])) | fail)
    go_ret2
    exact ⟨by rw [HF.out]; rfl, Below.refl _ _⟩
  | true =>
    have HF := hid (atW_yes (d := false) (r := (lynB xs)) hn)
    obtain ⟨⟨h1, h2⟩, hs⟩ := lyW_small hn
    go_enter Try.func26, Try.ntmps26
    go_wp2_with (first
      | (go_at_call 37; (refine (lyWord_any _ xs _ HS.out).mono ?_); (rintro e w1 ⟨rfl, rfl⟩); (rw [hn]))
      | (go_at_call 48; (refine (lyLyndon_any _ xs _ HS.out h1 h2 hs).mono ?_); (rintro e w2 ⟨rfl, hb2⟩); (have HB2 := hid hb2); (clear hb2))
      | fail)
    go_ret2
    exact ⟨by rw [HF.out]; rfl, HB2.out⟩
theorem law_impl_IsLyndon (v : Value) (xs : List Int) (w : World) (h : Sits w v xs) (hl : xs.length ≤ 1048576) (_hwf : ∀ x ∈ xs, (Lit.int .i64 x).wf = true) :
    Calls Try.prog 27 #[v] w fun e w' => e = .returned (.tuple #[.bool (atW xs false (lynB xs)), .bool (lyW xs)]) ∧ Below w.heap.size w w' := by
  have HS := hid h
  cases hn : lyW xs with
  | false =>
    have HF := hid (atW_no (d := false) (r := (lynB xs)) hn)
    go_enter Try.func27, Try.ntmps27
    go_wp2_with (first | (go_at_call 14; (refine (impl_IsWord_any _ xs _ HS.out.reads).mono ?_); (rintro e w1 ⟨rfl, rfl⟩); (rw [hn])) | fail)
    go_ret2
    exact ⟨by rw [HF.out]; rfl, Below.refl _ _⟩
  | true =>
    have HF := hid (atW_yes (d := false) (r := (lynB xs)) hn)
    obtain ⟨⟨h1, h2⟩, hs⟩ := lyW_small hn
    go_enter Try.func27, Try.ntmps27
    go_wp2_with (first
      | (go_at_call 14; (refine (impl_IsWord_any _ xs _ HS.out.reads).mono ?_); (rintro e w1 ⟨rfl, rfl⟩); (rw [hn]))
      | (go_at_call 49; (refine (isLyndon_any _ xs _ HS.out h1 h2).mono ?_); (rintro e w2 ⟨rfl, hb2⟩); (have HB2 := hid hb2); (clear hb2))
      | fail)
    go_ret2
    exact ⟨by rw [HF.out]; rfl, HB2.out⟩
def rwB (xs : List Int) (r : Int) : Bool := lyW xs && inB r (-1000) 1000
def rwRes (xs : List Int) (r : Int) : List Int := if rwB xs r = true then arL xs (r.tmod (xs.length : Int) + (xs.length : Int)).toNat xs.length else []
theorem rwRes_yes {xs : List Int} {r : Int} (h : rwB xs r = true) : rwRes xs r = arL xs (r.tmod (xs.length : Int) + (xs.length : Int)).toNat xs.length := by unfold rwRes; rw [if_pos h]
theorem rwRes_no {xs : List Int} {r : Int} (h : rwB xs r = false) : rwRes xs r = [] := by unfold rwRes; rw [if_neg (by rw [h]; simp)]
theorem bound_RotateWord (xs : List Int) (r : Int) : (rwRes xs r).length ≤ 1048576 := by
  cases h : rwB xs r with
  | false => rw [rwRes_no h]; simp
  | true =>
    rw [rwRes_yes h, arL_len]
    simp only [rwB, Bool.and_eq_true] at h
    have := (lyW_small h.1).1.2
    omega
theorem tmod_between (r : Int) {n : Nat} (h : 1 ≤ n) : -(n : Int) < r.tmod (n : Int) ∧ r.tmod (n : Int) < (n : Int) := by
  have h1 := Int.tmod_lt_of_pos r (show (0 : Int) < (n : Int) by omega)
  refine ⟨?_, h1⟩
  rcases Int.le_total 0 r with h2 | h2
  · have := Int.tmod_nonneg (n : Int) h2; omega
  · have h3 := Int.neg_tmod r (n : Int)
    have h4 := Int.tmod_lt_of_pos (-r) (show (0 : Int) < (n : Int) by omega)
    omega
theorem law_spec_RotateWord (v : Value) (xs : List Int) (r : Int) (w : World) (h : Sits w v xs) (hl : xs.length ≤ 1048576) (_hwf : ∀ x ∈ xs, (Lit.int .i64 x).wf = true) (_wr : (Lit.int .i64 r).wf = true) :
    Calls Try.prog 16 #[v, .int .i64 r] w fun e w' => ∃ u, e = .returned (.tuple #[u, .bool (rwB xs r)]) ∧ Own w' w.heap.size u (rwRes xs r) ∧ Below w.heap.size w w' := by
  have HS := hid h
  obtain ⟨b, off, c, rfl, hc1, hm, hb, hc⟩ := h
  clear hc
  cases hn : lyW xs with
  | false =>
    have HB := hid (show rwB xs r = false by unfold rwB; rw [hn]; rfl)
    have HF := hid (rwRes_no HB.out)
    go_enter Try.func16, Try.ntmps16
    go_wp2_with (first | (go_at_call 37; (refine (lyWord_any _ xs _ HS.out).mono ?_); (rintro e w1 ⟨rfl, rfl⟩); (rw [hn])) | fail)
    go_ret2
    exact ⟨_, ret_sb7 HB.out.symm, by rw [HF.out]; exact Own.nil _ _, Below.refl _ _⟩
  | true =>
    obtain ⟨⟨h1, h2⟩, hs⟩ := lyW_small hn
    have hlb : xs.length ≤ 1048576 := by omega
    cases hin : inB r (-1000) 1000 with
    | false =>
      have HB := hid (show rwB xs r = false by unfold rwB; rw [hn, hin]; rfl)
      have HF := hid (rwRes_no HB.out)
      go_enter Try.func16, Try.ntmps16
      go_wp2_with (first | (go_at_call 37; (refine (lyWord_any _ xs _ HS.out).mono ?_); (rintro e w1 ⟨rfl, rfl⟩); (rw [hn])) | (go_at_call 39; (refine (l1In_any _ _ _ _).mono ?_); (rintro e w1 ⟨rfl, rfl⟩); (rw [hin])) | fail)
      go_ret2
      exact ⟨_, ret_sb7 HB.out.symm, by rw [HF.out]; exact Own.nil _ _, Below.refl _ _⟩
    | true =>
      have HB := hid (show rwB xs r = true by unfold rwB; rw [hn, hin]; rfl)
      have HF := hid (rwRes_yes HB.out)
      have hrr := inB_iff.1 hin
      have htb := tmod_between r h1
      obtain ⟨t, ht⟩ : ∃ t, r.tmod (xs.length : Int) = t := ⟨_, rfl⟩
      rw [ht] at htb HF
      obtain ⟨s, hs2⟩ := Int.eq_ofNat_of_zero_le (show 0 ≤ t + (xs.length : Int) by omega)
      rw [hs2, Int.toNat_natCast] at HF
      have hsb : s ≤ 1048576 := by omega
      have u3 : ((xs.length : Int) == 0) = false := beq_eq_false_iff_ne.2 (by omega)
      have u6 : IntKind.i64.wrap t = t := IntWalk.i64_in _ (by omega)
      go_enter Try.func16, Try.ntmps16
      go_wp2_with (first
        | (go_at_call 37; (refine (lyWord_any _ xs _ HS.out).mono ?_); (rintro e w1 ⟨rfl, rfl⟩); (rw [hn]))
        | (go_at_call 39; (refine (l1In_any _ _ _ _).mono ?_); (rintro e w1 ⟨rfl, rfl⟩); (rw [hin]))
        | (go_at_call 40; (refine (lyRotate_any _ xs s _ HS.out hsb h1 hlb).mono ?_); (rintro e w2 ⟨g2, c2, rfl, ho2, hb2⟩); (have HO2 := hid ho2); (have HB2 := hid hb2); (clear ho2 hb2))
        | fail)
      go_ret2
      exact ⟨_, ret_sb7 HB.out.symm, by rw [HF.out]; exact HO2.out, HB2.out⟩
theorem law_impl_RotateWord (v : Value) (xs : List Int) (r : Int) (w : World) (h : Sits w v xs) (hl : xs.length ≤ 1048576) (_hwf : ∀ x ∈ xs, (Lit.int .i64 x).wf = true) (_wr : (Lit.int .i64 r).wf = true) :
    Calls Try.prog 17 #[v, .int .i64 r] w fun e w' => ∃ u, e = .returned (.tuple #[u, .bool (rwB xs r)]) ∧ Own w' w.heap.size u (rwRes xs r) ∧ Below w.heap.size w w' := by
  have HS := hid h
  obtain ⟨b, off, c, rfl, hc1, hm, hb, hc⟩ := h
  clear hc
  cases hn : lyW xs with
  | false =>
    have HB := hid (show rwB xs r = false by unfold rwB; rw [hn]; rfl)
    have HF := hid (rwRes_no HB.out)
    go_enter Try.func17, Try.ntmps17
    go_wp2_with (first | (go_at_call 14; (refine (impl_IsWord_any _ xs _ HS.out.reads).mono ?_); (rintro e w1 ⟨rfl, rfl⟩); (rw [hn])) | fail)
    go_ret2
    exact ⟨_, ret_sb7 HB.out.symm, by rw [HF.out]; exact Own.nil _ _, Below.refl _ _⟩
  | true =>
    obtain ⟨⟨h1, h2⟩, hs⟩ := lyW_small hn
    have hlb : xs.length ≤ 1048576 := by omega
    cases hin : inB r (-1000) 1000 with
    | false =>
      have HB := hid (show rwB xs r = false by unfold rwB; rw [hn, hin]; rfl)
      have HF := hid (rwRes_no HB.out)
      by_cases hlo : r < -1000
      · go_enter Try.func17, Try.ntmps17
        go_wp2_with (first | (go_at_call 14; (refine (impl_IsWord_any _ xs _ HS.out.reads).mono ?_); (rintro e w1 ⟨rfl, rfl⟩); (rw [hn])) | fail)
        go_ret2
        exact ⟨_, ret_sb7 HB.out.symm, by rw [HF.out]; exact Own.nil _ _, Below.refl _ _⟩
      · have hhi : 1000 < r := by
          by_cases e : 1000 < r
          · exact e
          · rw [inB_iff.2 (by omega)] at hin; cases hin
        clear hin
        go_enter Try.func17, Try.ntmps17
        go_wp2_with (first | (go_at_call 14; (refine (impl_IsWord_any _ xs _ HS.out.reads).mono ?_); (rintro e w1 ⟨rfl, rfl⟩); (rw [hn])) | fail)
        go_ret2
        exact ⟨_, ret_sb7 HB.out.symm, by rw [HF.out]; exact Own.nil _ _, Below.refl _ _⟩
    | true =>
      have HB := hid (show rwB xs r = true by unfold rwB; rw [hn, hin]; rfl)
      have HF := hid (rwRes_yes HB.out)
      have hrr := inB_iff.1 hin
      have htb := tmod_between r h1
      obtain ⟨t, ht⟩ : ∃ t, r.tmod (xs.length : Int) = t := ⟨_, rfl⟩
      rw [ht] at htb HF
      obtain ⟨s, hs2⟩ := Int.eq_ofNat_of_zero_le (show 0 ≤ t + (xs.length : Int) by omega)
      rw [hs2, Int.toNat_natCast] at HF
      have hsb : s ≤ 1048576 := by omega
      have u3 : ((xs.length : Int) == 0) = false := beq_eq_false_iff_ne.2 (by omega)
      have u6 : IntKind.i64.wrap t = t := IntWalk.i64_in _ (by omega)
      have hlo : ¬ r < -1000 := by omega
      have hhi : ¬ 1000 < r := by omega
      clear hin
      go_enter Try.func17, Try.ntmps17
      go_wp2_with (first
        | (go_at_call 14; (refine (impl_IsWord_any _ xs _ HS.out.reads).mono ?_); (rintro e w1 ⟨rfl, rfl⟩); (rw [hn]))
        | (go_at_call 41; (refine (rotated_any _ xs s _ HS.out hsb h1 hlb).mono ?_); (rintro e w2 ⟨rfl, ho2, hb2⟩); (have HO2 := hid ho2); (have HB2 := hid hb2); (clear ho2 hb2))
        | fail)
      go_ret2
      exact ⟨_, ret_sb7 HB.out.symm, by rw [HF.out]; exact HO2.out, HB2.out⟩
def lrRes (xs : List Int) : List Int := atW xs [] (arL xs (leastL xs) xs.length)
theorem bound_LeastRotation (xs : List Int) : (lrRes xs).length ≤ 1048576 := by
  unfold lrRes
  cases h : lyW xs with
  | false => rw [atW_no h]; simp
  | true =>
    rw [atW_yes h, arL_len]
    have := (lyW_small h).1.2
    omega
theorem law_spec_LeastRotation (v : Value) (xs : List Int) (w : World) (h : Sits w v xs) (hl : xs.length ≤ 1048576) (_hwf : ∀ x ∈ xs, (Lit.int .i64 x).wf = true) :
    Calls Try.prog 20 #[v] w fun e w' => ∃ u, e = .returned (.tuple #[.int .i64 (atW xs 0 (leastL xs : Int)), u, .bool (lyW xs)]) ∧ Own w' w.heap.size u (lrRes xs) ∧ Below w.heap.size w w' := by
  have HS := hid h
  cases hn : lyW xs with
  | false =>
    have HF := hid (atW_no (d := (0 : Int)) (r := (leastL xs : Int)) hn)
    have HG := hid (show lrRes xs = [] from atW_no hn)
    go_enter Try.func20, Try.ntmps20
    go_wp2_with (first | (go_at_call 37; (refine (lyWord_any _ xs _ HS.out).mono ?_); (rintro e w1 ⟨rfl, rfl⟩); (rw [hn])) | fail)
    go_ret3
    exact ⟨_, by rw [HF.out]; rfl, by rw [HG.out]; exact Own.nil _ _, Below.refl _ _⟩
  | true =>
    have HF := hid (atW_yes (d := (0 : Int)) (r := (leastL xs : Int)) hn)
    have HG := hid (show lrRes xs = arL xs (leastL xs) xs.length from atW_yes hn)
    obtain ⟨⟨h1, h2⟩, hs⟩ := lyW_small hn
    have hlb : xs.length ≤ 1048576 := by omega
    have hsb : leastL xs ≤ 1048576 := by have := leastL_lt h1; omega
    go_enter Try.func20, Try.ntmps20
    go_wp2_with (first
      | (go_at_call 37; (refine (lyWord_any _ xs _ HS.out).mono ?_); (rintro e w1 ⟨rfl, rfl⟩); (rw [hn]))
      | (go_at_call 42; (have HBx := HB1); (refine (lyLeast_any _ xs _ (HS.out.below HB1.out) h1 h2 hs).mono ?_); (rintro e w2 ⟨rfl, hb2⟩); (have HB2 := hid (Below_chain HB1.out hb2)); (clear hb2))
      | (go_at_call 42; (refine (lyLeast_any _ xs _ HS.out h1 h2 hs).mono ?_); (rintro e w1 ⟨rfl, hb1⟩); (have HB1 := hid hb1); (clear hb1))
      | (go_at_call 40; (refine (lyRotate_any _ xs (leastL xs) _ (HS.out.below HB2.out) hsb h1 hlb).mono ?_); (rintro e w3 ⟨g3, c3, rfl, ho3, hb3⟩); (have HO3 := hid (ho3.mono HB2.out.size)); (have HB3 := hid (Below_chain HB2.out hb3)); (clear ho3 hb3))
      | fail)
    go_ret3
    exact ⟨_, by rw [HF.out]; rfl, by rw [HG.out]; exact HO3.out, HB3.out⟩
theorem law_impl_LeastRotation (v : Value) (xs : List Int) (w : World) (h : Sits w v xs) (hl : xs.length ≤ 1048576) (_hwf : ∀ x ∈ xs, (Lit.int .i64 x).wf = true) :
    Calls Try.prog 21 #[v] w fun e w' => ∃ u, e = .returned (.tuple #[.int .i64 (atW xs 0 (leastL xs : Int)), u, .bool (lyW xs)]) ∧ Own w' w.heap.size u (lrRes xs) ∧ Below w.heap.size w w' := by
  have HS := hid h
  cases hn : lyW xs with
  | false =>
    have HF := hid (atW_no (d := (0 : Int)) (r := (leastL xs : Int)) hn)
    have HG := hid (show lrRes xs = [] from atW_no hn)
    go_enter Try.func21, Try.ntmps21
    go_wp2_with (first | (go_at_call 14; (refine (impl_IsWord_any _ xs _ HS.out.reads).mono ?_); (rintro e w1 ⟨rfl, rfl⟩); (rw [hn])) | fail)
    go_ret3
    exact ⟨_, by rw [HF.out]; rfl, by rw [HG.out]; exact Own.nil _ _, Below.refl _ _⟩
  | true =>
    have HF := hid (atW_yes (d := (0 : Int)) (r := (leastL xs : Int)) hn)
    have HG := hid (show lrRes xs = arL xs (leastL xs) xs.length from atW_yes hn)
    obtain ⟨⟨h1, h2⟩, hs⟩ := lyW_small hn
    have hlb : xs.length ≤ 1048576 := by omega
    have hsb : leastL xs ≤ 1048576 := by have := leastL_lt h1; omega
    go_enter Try.func21, Try.ntmps21
    go_wp2_with (first
      | (go_at_call 14; (refine (impl_IsWord_any _ xs _ HS.out.reads).mono ?_); (rintro e w1 ⟨rfl, rfl⟩); (rw [hn]))
      | (go_at_call 43; (refine (leastRotation_any _ xs _ HS.out h1 h2).mono ?_); (rintro e w3 ⟨g3, c3, rfl, ho3, hb3⟩); (have HO3 := hid ho3); (have HB3 := hid hb3); (clear ho3 hb3))
      | fail)
    go_ret3
    exact ⟨_, by rw [HF.out]; rfl, by rw [HG.out]; exact HO3.out, HB3.out⟩
end Go.Proofs.Ytjghjlhjeibfoaa
