/- Contracts: both StandardFactors. Conditions: slices that are not nil and read as lists of at most 2^20 numbers. -/
import Derived.Test.YtjghjlhjeibfoaaLy5
import Derived.Test.YtjghjlhjeibfoaaLy6
namespace Go.Proofs.Ytjghjlhjeibfoaa
open Go.RowKit
set_option linter.unusedVariables false
set_option maxRecDepth 4000

def sfB (xs : List Int) : Bool := lyW xs && (decide (2 ≤ xs.length) && lynB xs)
def sf1 (xs : List Int) : List Int := if sfB xs = true then xs.take (hfL xs) else []
def sf2 (xs : List Int) : List Int := if sfB xs = true then xs.drop (hfL xs) else []
theorem sf1_yes {xs : List Int} (h : sfB xs = true) : sf1 xs = xs.take (hfL xs) := by unfold sf1; rw [if_pos h]
theorem sf2_yes {xs : List Int} (h : sfB xs = true) : sf2 xs = xs.drop (hfL xs) := by unfold sf2; rw [if_pos h]
theorem sf1_no {xs : List Int} (h : sfB xs = false) : sf1 xs = [] := by unfold sf1; rw [if_neg (by rw [h]; simp)]
theorem sf2_no {xs : List Int} (h : sfB xs = false) : sf2 xs = [] := by unfold sf2; rw [if_neg (by rw [h]; simp)]
theorem sfB_len {xs : List Int} (h : sfB xs = true) : xs.length ≤ 24 := by
  simp only [sfB, Bool.and_eq_true] at h
  exact (lyW_small h.1).1.2
theorem bound_StandardFactors1 (xs : List Int) : (sf1 xs).length ≤ 1048576 := by
  cases h : sfB xs with
  | false => rw [sf1_no h]; simp
  | true => rw [sf1_yes h]; have := sfB_len h; simp; omega
theorem bound_StandardFactors2 (xs : List Int) : (sf2 xs).length ≤ 1048576 := by
  cases h : sfB xs with
  | false => rw [sf2_no h]; simp
  | true => rw [sf2_yes h]; have := sfB_len h; simp; omega
theorem Lives.nil0 (w : World) (lo hi : Nat) : Lives w lo hi (.slice none 0 0) [] := ⟨Own.nil _ _, fun k hk => by simp [Value.ownBlock] at hk⟩
set_option maxHeartbeats 1000000 in
theorem law_spec_StandardFactors (v : Value) (xs : List Int) (w : World) (h : Sits w v xs) (hl : xs.length ≤ 1048576) (_hwf : ∀ x ∈ xs, (Lit.int .i64 x).wf = true) :
    Calls Try.prog 35 #[v] w fun e w' => ∃ u1 u2 M, e = .returned (.tuple #[u1, u2, .bool (sfB xs)]) ∧ Lives w' w.heap.size M u1 (sf1 xs) ∧ Own w' M u2 (sf2 xs) ∧ w.heap.size ≤ M ∧ M ≤ w'.heap.size ∧ Below w.heap.size w w' := by
  have HS := hid h
  obtain ⟨b, off, c, rfl, hc1, hm, hb, hc⟩ := h
  have HT := hid (fun (k : Nat) (hk : k ≤ xs.length) => Sits_take (w := w) (off := off) k hk hc1 hm hb hc)
  have HD := hid (fun (k : Nat) (hk : k ≤ xs.length) => Sits_drop (w := w) (off := off) k hk hc1 hm hb hc)
  clear hc
  cases hn : lyW xs with
  | false =>
    have HB := hid (show sfB xs = false by unfold sfB; rw [hn]; rfl)
    have H1 := hid (sf1_no HB.out)
    have H2 := hid (sf2_no HB.out)
    go_enter Try.func35, Try.ntmps35
    go_wp2_with (first | (go_at_call 37; (refine (lyWord_any _ xs _ HS.out).mono ?_); (rintro e w1 ⟨rfl, rfl⟩); (rw [hn])) | fail)
    go_ret3
    exact ⟨_, _, w.heap.size, by rw [HB.out]; rfl, by rw [H1.out]; exact Lives.nil0 _ _ _, by rw [H2.out]; exact Own.nil _ _, Nat.le_refl _, Nat.le_refl _, Below.refl _ _⟩
  | true =>
    obtain ⟨⟨h1, h2⟩, hs⟩ := lyW_small hn
    by_cases h22 : 2 ≤ xs.length
    · have q2 : ¬ (xs.length : Int) < 2 := by omega
      cases hly : lynB xs with
      | false =>
        have HB := hid (show sfB xs = false by unfold sfB; rw [hn, hly]; simp)
        have H1 := hid (sf1_no HB.out)
        have H2 := hid (sf2_no HB.out)
        go_enter Try.func35, Try.ntmps35
        go_wp2_with (first
          | (go_at_call 37; (refine (lyWord_any _ xs _ HS.out).mono ?_); (rintro e w1 ⟨rfl, rfl⟩); (rw [hn]))
          | (go_at_call 48; (refine (lyLyndon_any _ xs _ HS.out h1 h2 hs).mono ?_); (rintro e w1 ⟨rfl, hb1⟩); (rw [hly]); (have HB1 := hid hb1); (clear hb1))
          | fail)
        go_ret3
        exact ⟨_, _, w.heap.size, by rw [HB.out]; rfl, by rw [H1.out]; exact Lives.nil0 _ _ _, by rw [H2.out]; exact Own.nil _ _, Nat.le_refl _, HB1.out.size, HB1.out⟩
      | true =>
        have HB := hid (show sfB xs = true by unfold sfB; rw [hn, hly, decide_eq_true h22]; rfl)
        have H1 := hid (sf1_yes HB.out)
        have H2 := hid (sf2_yes HB.out)
        have hk := hfL_spec h22
        obtain ⟨q, hq⟩ : ∃ q, q = hfL xs := ⟨_, rfl⟩
        rw [← hq] at H1 H2 hk
        have HQ := hid hq
        have hq1 := hk.1
        have hq2 := hk.2.1
        have p1 : (0 : Int) ≤ (q : Int) := by omega
        have p2 : (q : Int) ≤ (c : Int) := by omega
        have p3 : (q : Int) ≤ (xs.length : Int) := by omega
        have p5 : (xs.length : Int) ≤ (c : Int) := by omega
        have p6 : q ≤ c := by omega
        have p7 : ¬ c = q := by omega
        have p8 : q < c := by omega
        have p9 : q ≤ xs.length := by omega
        have HTL := hid (show (xs.take q).length ≤ 1048576 by simp; omega)
        have HDL := hid (show (xs.drop q).length ≤ 1048576 by simp; omega)
        clear hk hq
        go_enter Try.func35, Try.ntmps35
        go_wp2_with (first
          | (go_at_call 37; (refine (lyWord_any _ xs _ HS.out).mono ?_); (rintro e w1 ⟨rfl, rfl⟩); (rw [hn]))
          | (go_at_call 48; (refine (lyLyndon_any _ xs _ HS.out h1 h2 hs).mono ?_); (rintro e w1 ⟨rfl, hb1⟩); (rw [hly]); (have HB1 := hid hb1); (clear hb1))
          | (go_at_call 57; (refine (lyHalf_any _ xs _ (HS.out.below HB1.out) h22 h2 hs).mono ?_); (rintro e w2 ⟨rfl, hb2⟩); (rw [← HQ.out]); (have HB2 := hid (Below_chain HB1.out hb2)); (clear hb2))
          | fail)
        have HB2D := hid (Below.drew HB2.out)
        clear HB2
        go_region_held3 (fun _ => True) (trivial)
          (first
            | (go_at_call 54; (have HX := HB3); (refine (l1Own_any _ (xs.drop q) _ ((HD.out q p9).below HB3.out) HDL.out).mono ?_); (rintro e w4 ⟨u4, rfl, ho4, hb4, _⟩); (have HO4 := hid ho4); (have HO3b := hid (HO3.out.below hb4)); (have HS4 := hid hb4.size); (have HB4 := hid (Below_chain HB3.out hb4)); (clear ho4 hb4))
            | (go_at_call 54; (refine (l1Own_any _ (xs.take q) _ ((HT.out q p9).below HB2D.out) HTL.out).mono ?_); (rintro e w3 ⟨u3, rfl, ho3, hb3, _⟩); (have HO3 := hid (ho3.mono HB2D.out.size).lives); (have HB3 := hid (Below_chain HB2D.out hb3)); (clear ho3 hb3))
            | fail)
        go_wp2_with fail
        go_ret3
        exact ⟨_, _, _, by rw [HB.out]; rfl, by rw [H1.out]; exact HO3b.out, by rw [H2.out]; exact HO4.out, HB3.out.size, HS4.out, HB4.out⟩
    · have q2 : (xs.length : Int) < 2 := by omega
      have HB := hid (show sfB xs = false by unfold sfB; rw [hn, decide_eq_false h22]; rfl)
      have H1 := hid (sf1_no HB.out)
      have H2 := hid (sf2_no HB.out)
      go_enter Try.func35, Try.ntmps35
      go_wp2_with (first | (go_at_call 37; (refine (lyWord_any _ xs _ HS.out).mono ?_); (rintro e w1 ⟨rfl, rfl⟩); (rw [hn])) | fail)
      go_ret3
      exact ⟨_, _, w.heap.size, by rw [HB.out]; rfl, by rw [H1.out]; exact Lives.nil0 _ _ _, by rw [H2.out]; exact Own.nil _ _, Nat.le_refl _, Nat.le_refl _, Below.refl _ _⟩
set_option maxHeartbeats 1000000 in
theorem law_impl_StandardFactors (v : Value) (xs : List Int) (w : World) (h : Sits w v xs) (hl : xs.length ≤ 1048576) (_hwf : ∀ x ∈ xs, (Lit.int .i64 x).wf = true) :
    Calls Try.prog 36 #[v] w fun e w' => ∃ u1 u2 M, e = .returned (.tuple #[u1, u2, .bool (sfB xs)]) ∧ Lives w' w.heap.size M u1 (sf1 xs) ∧ Own w' M u2 (sf2 xs) ∧ w.heap.size ≤ M ∧ M ≤ w'.heap.size ∧ Below w.heap.size w w' := by
  have HS := hid h
  obtain ⟨b, off, c, rfl, hc1, hm, hb, hc⟩ := h
  have HT := hid (fun (k : Nat) (hk : k ≤ xs.length) => Sits_take (w := w) (off := off) k hk hc1 hm hb hc)
  have HD := hid (fun (k : Nat) (hk : k ≤ xs.length) => Sits_drop (w := w) (off := off) k hk hc1 hm hb hc)
  clear hc
  cases hn : (lyW xs && lynB xs) with
  | false =>
    have HB := hid (show sfB xs = false by
      unfold sfB
      cases h1 : lyW xs with
      | false => rfl
      | true =>
        rw [h1, Bool.true_and] at hn
        rw [hn]; simp)
    have H1 := hid (sf1_no HB.out)
    have H2 := hid (sf2_no HB.out)
    go_enter Try.func36, Try.ntmps36
    go_wp2_with (first | (go_at_call 58; (refine (isLyndonWord_any _ xs _ HS.out).mono ?_); (rintro e w1 ⟨rfl, hb1⟩); (rw [hn]); (have HB1 := hid hb1); (clear hb1)) | fail)
    go_ret3
    exact ⟨_, _, w.heap.size, by rw [HB.out]; rfl, by rw [H1.out]; exact Lives.nil0 _ _ _, by rw [H2.out]; exact Own.nil _ _, Nat.le_refl _, HB1.out.size, HB1.out⟩
  | true =>
    have hn2 := hn
    simp only [Bool.and_eq_true] at hn2
    obtain ⟨⟨h1, h2⟩, hs⟩ := lyW_small hn2.1
    by_cases h22 : 2 ≤ xs.length
    · have q2 : ((xs.length : Int) == 1) = false := by simp; omega
      have HB := hid (show sfB xs = true by unfold sfB; rw [hn2.1, hn2.2, decide_eq_true h22]; rfl)
      have H1 := hid (sf1_yes HB.out)
      have H2 := hid (sf2_yes HB.out)
      have hk := hfL_spec h22
      obtain ⟨q, hq⟩ : ∃ q, q = hfL xs := ⟨_, rfl⟩
      rw [← hq] at H1 H2 hk
      have HQ := hid hq
      have hq1 := hk.1
      have hq2 := hk.2.1
      have p1 : (0 : Int) ≤ (q : Int) := by omega
      have p2 : (q : Int) ≤ (c : Int) := by omega
      have p3 : (q : Int) ≤ (xs.length : Int) := by omega
      have p5 : (xs.length : Int) ≤ (c : Int) := by omega
      have p6 : q ≤ c := by omega
      have p7 : ¬ c = q := by omega
      have p8 : q < c := by omega
      have p9 : q ≤ xs.length := by omega
      have HTL := hid (show (xs.take q).length = q by simp; omega)
      have HDL := hid (show (xs.drop q).length = xs.length - q by simp)
      have hqb : (xs.take q).length ≤ 1048576 := by rw [HTL.out]; omega
      have hdb : (xs.drop q).length ≤ 1048576 := by rw [HDL.out]; omega
      have HTB := hid hqb
      have HDB := hid hdb
      clear hk hq hn2 hqb hdb
      go_enter Try.func36, Try.ntmps36
      go_wp2_with (first
        | (go_at_call 58; (refine (isLyndonWord_any _ xs _ HS.out).mono ?_); (rintro e w1 ⟨rfl, hb1⟩); (rw [hn]); (have HB1 := hid hb1); (clear hb1))
        | (go_at_call 59; (refine (secondFactor_any _ xs _ (HS.out.below HB1.out) h22 h2).mono ?_); (rintro e w2 ⟨rfl, hb2⟩); (rw [← HQ.out]); (have HB2 := hid (Below_chain HB1.out hb2)); (clear hb2))
        | fail)
      have HB2D := hid (Below.drew HB2.out)
      clear HB2
      go_region_held3 (fun _ => True) (trivial)
        (first
          | (go_at_call 51; (have HX := HB3); (refine (copyOf_any _ (xs.drop q) _ ((HD.out q p9).below HB3.out) HDB.out).mono ?_); (rintro e w4 ⟨rfl, hr4, hb4⟩); (have HO4 := hid (copy_own HDB.out hr4)); (have HO3b := hid (HO3.out.below hb4)); (have HS4 := hid hb4.size); (have HB4 := hid (Below_chain HB3.out hb4)); (clear hr4 hb4))
          | (go_at_call 51; (refine (copyOf_any _ (xs.take q) _ ((HT.out q p9).below HB2D.out) HTB.out).mono ?_); (rintro e w3 ⟨rfl, hr3, hb3⟩); (have HO3 := hid ((copy_own HTB.out hr3).mono HB2D.out.size).lives); (have HB3 := hid (Below_chain HB2D.out hb3)); (clear hr3 hb3))
          | fail)
      go_wp2_with fail
      go_ret3
      exact ⟨_, _, _, by rw [HB.out]; rfl, by rw [H1.out]; have hh := HO3b.out; rw [HTL.out] at hh; exact hh, by rw [H2.out]; have hh := HO4.out; rw [HDL.out] at hh; exact hh, HB3.out.size, HS4.out, HB4.out⟩
    · have q2 : ((xs.length : Int) == 1) = true := by simp; omega
      have HB := hid (show sfB xs = false by unfold sfB; rw [decide_eq_false h22]; simp)
      have H1 := hid (sf1_no HB.out)
      have H2 := hid (sf2_no HB.out)
      clear hn2
      go_enter Try.func36, Try.ntmps36
      go_wp2_with (first | (go_at_call 58; (refine (isLyndonWord_any _ xs _ HS.out).mono ?_); (rintro e w1 ⟨rfl, hb1⟩); (rw [hn]); (have HB1 := hid hb1); (clear hb1)) | fail)
      go_ret3
      exact ⟨_, _, w.heap.size, by rw [HB.out]; rfl, by rw [H1.out]; exact Lives.nil0 _ _ _, by rw [H2.out]; exact Own.nil _ _, Nat.le_refl _, HB1.out.size, HB1.out⟩
end Go.Proofs.Ytjghjlhjeibfoaa
