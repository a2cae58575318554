/- Contract: spec.FromInversions. Conditions: the slice reads as a list of at most 2^20 numbers. -/
import Derived.Test.YtgfafnejgbblhabAt1
namespace Go.Proofs.Ytgfafnejgbblhab
open Go.RowKit
set_option linter.unusedVariables false

/-- the elements that the last counts tell, ahead of out -/
def fr (cs : List Int) : Nat → List Int → List Int → List Int
  | 0, _, out => out
  | k + 1, left, out => fr cs k (left.eraseIdx (k - (cs.getD k 0).toNat)) (left.getD (k - (cs.getD k 0).toNat) 0 :: out)
def cntAt (cs : List Int) (i : Nat) : Bool := inB (cs.getD i 0) 0 i
def cntB (cs : List Int) : Bool := inB (cs.length : Int) 0 12 && allTo cs.length (cntAt cs)
def frRes (cs : List Int) : List Int := if cntB cs = true then fr cs cs.length (upTo cs.length) [] else []
theorem frRes_yes {cs : List Int} (h : cntB cs = true) : frRes cs = fr cs cs.length (upTo cs.length) [] := by unfold frRes; rw [if_pos h]
theorem frRes_no {cs : List Int} (h : cntB cs = false) : frRes cs = [] := by unfold frRes; rw [if_neg (by rw [h]; simp)]
theorem fr_length (cs : List Int) (k : Nat) : ∀ (left out : List Int), (fr cs k left out).length = k + out.length := by
  induction k with
  | zero => intro left out; simp [fr]
  | succ k ih => intro left out; rw [fr, ih, List.length_cons]; omega
theorem bound_FromInversions (cs : List Int) : (frRes cs).length ≤ 1048576 := by
  by_cases h : cntB cs = true
  · rw [frRes_yes h, fr_length]
    simp only [cntB, Bool.and_eq_true, inB_iff] at h
    simp; omega
  · rw [frRes_no (by simpa using h)]; simp
theorem ret_sb4 {u : Value} {b b' : Bool} (h : b = b') : Ending.returned (.tuple #[u, .bool b]) = .returned (.tuple #[u, .bool b']) := by rw [h]
theorem cntB_no {cs : List Int} {i : Nat} (hi : i < cs.length) (h : cntAt cs i = false) : cntB cs = false := by rw [cntB, allTo_no hi h]; simp

theorem spec_FromInversions_any (v : Value) (cs : List Int) (w : World) (h : Sits w v cs) (hl : cs.length ≤ 1048576) (_hwf : ∀ n ∈ cs, (Lit.int .i64 n).wf = true) :
    Calls Try.prog 19 #[v] w fun e w' => ∃ u, e = .returned (.tuple #[u, .bool (cntB cs)]) ∧ Own w' w.heap.size u (frRes cs) ∧ Below w.heap.size w w' := by
  obtain ⟨b, off, c, rfl, hc1, hm, hb, hc⟩ := h
  obtain ⟨i0, hi, hz0, hz1, hz2⟩ := info_parts Try.info3
  have HC := hid hc
  clear hc
  by_cases h1 : inB (cs.length : Int) 0 12 = true
  · have h12 := (inB_iff.1 h1).2
    have H1 := hid h1
    go_enter Try.func19, Try.ntmps19
    go_wp2_with (first | (go_at_call 46; refine (raItems_any _ _).mono ?_; rintro e w' ⟨rfl, rfl⟩) | (go_at_call 47; refine (raUpTo_any cs.length _ (by omega)).mono ?_; rintro e w1 ⟨u, rfl, hou, hb1⟩; have HOU := hid hou; have HB1 := hid hb1; clear hou hb1) | fail)
    clear h1
    go_loopw [5, 6, 7, 8] (fun lv ov i _ wr => ∃ (k : Nat) (left out : List Int), k ≤ cs.length ∧ i = .int .i64 ((k : Int) - 1) ∧ left.length = k ∧ Own wr w.heap.size lv left ∧ Own wr w.heap.size ov out ∧ out.length + k = cs.length ∧ fr cs k left out = fr cs cs.length (upTo cs.length) [] ∧ (∀ j, k ≤ j → j < cs.length → cntAt cs j = true) ∧ Below w.heap.size w wr) (fun _ _ i _ _ => (intOf i + 1).toNat)
    case atStart => exact ⟨cs.length, upTo cs.length, [], Nat.le_refl _, rfl, upTo_length _, HOU.out, Own.nil _ _, by simp, rfl, fun j h1 h2 => by omega, HB1.out⟩
    case round =>
      obtain ⟨k, left, out, hk, rfl, hll, hol, hoo, hsum, hfr, hall, hbel⟩ := hrel
      have HLL := hid hll
      have HOL := hid hol
      have HOO := hid hoo
      have HSUM := hid hsum
      have HFR := hid hfr
      have HALL := hid hall
      have HBEL := hid hbel
      cases k with
      | zero =>
        rw [show (((0 : Nat) : Int) - 1) = -1 from rfl]
        have HF : Hid (cntB cs = true) := by
          show cntB cs = true
          rw [cntB, H1.out, Bool.true_and, allTo_iff]
          exact fun i hi => hall i (Nat.zero_le _) hi
        have HX := hid (frRes_yes HF.out)
        clear hll hol hoo hsum hfr hall hbel
        go_wp2_with fail
        go_ret2
        exact ⟨_, ret_sb4 HF.out.symm, by rw [HX.out, ← HFR.out]; exact HOO.out, HBEL.out⟩
      | succ j =>
        rw [show (((j + 1 : Nat) : Int) - 1) = (j : Int) from by omega]
        have hj : j < cs.length := by omega
        have hcx : wr.cell? ⟨b, off + j, none⟩ = some (.int .i64 cs[j]) := (hbel.cell (by exact hb)).trans (HC.out j hj)
        by_cases hin : inB cs[j] 0 (j : Int) = true
        · have hin2 := inB_iff.1 hin
          obtain ⟨x, hx⟩ := Int.eq_ofNat_of_zero_le hin2.1
          have hxj : x ≤ j := by omega
          rcases hol.form with ⟨e1, e2⟩ | ⟨g, cap, rfl, hg1, hg2, hg3, hg4, hgc, _⟩
          · rw [e2] at hll; simp at hll
          · have hcell : wr.cell? ⟨g, left.length - 1 - x, none⟩ = some (.int .i64 left[left.length - 1 - x]) := by
              have := hgc (left.length - 1 - x) (by omega)
              rw [Nat.zero_add, getD_at (show left.length - 1 - x < left.length by omega)] at this
              exact this
            obtain ⟨y, hy⟩ : ∃ y, y = left[left.length - 1 - x] := ⟨_, rfl⟩
            rw [← hy] at hcell
            rw [hx] at hcx hin
            have HNX : Hid (fr cs j (left.eraseIdx (left.length - 1 - x)) (y :: out) = fr cs cs.length (upTo cs.length) []) := by
              show fr cs j (left.eraseIdx (left.length - 1 - x)) (y :: out) = fr cs cs.length (upTo cs.length) []
              rw [← hfr, fr, getD_at hj, hx, Int.toNat_natCast, show j - x = left.length - 1 - x by omega, getD_at (show left.length - 1 - x < left.length by omega), hy]
            have HCA : Hid (cntAt cs j = true) := by
              show cntAt cs j = true
              rw [cntAt, getD_at hj, hx]; exact hin
            have hl1 : (x : Int) + 1 ≤ (left.length : Int) := by omega
            have hl2 : (left.length : Int) ≤ 12 := by omega
            have hl3 : x < left.length := by omega
            unfold maxLen at hg4
            have HLE := hid (show (left.eraseIdx (left.length - 1 - x)).length = j by rw [List.length_eraseIdx_of_lt (by omega)]; omega)
            have HSL := hid (Own.sits hol)
            have hat : left.length - 1 - x < left.length := by omega
            have HLIT := hid (Own.lit1 wr y)
            have HE := hid (show (left.length : Int) - 1 - (x : Int) = ((left.length - 1 - x : Nat) : Int) by omega)
            have hl20 : left.length ≤ 1048576 := by omega
            have HLN := hid (show [y].length + out.length ≤ 1048576 by simp; omega)
            have HSUM2 := hid (show (y :: out).length + j = cs.length by simp; omega)
            clear hll hol hoo hsum hfr hall hbel hx hy hgc hin2
            go_wp2_with (first
              | (go_at_call 48; refine (l1In_any _ _ _ _).mono ?_; rintro e w' ⟨rfl, rfl⟩)
              | (at_builtin; refine wpList_append_src _ rfl _ _ 22 rfl wr.heap.size i0 Try.underlying22 hi hz0 hz1 hz2 (.slice (some ⟨wr.heap.size, 0, none⟩) 1 1) [y] rfl HLIT.out _ _ out rfl (HOO.out.below ((Below.refl _ _).alloc (Nat.le_refl _) _)) HLN.out (alloc_size_le wr _) ?_; intro v' w3 hown' hgrow; have HB3 := hid (((Below.refl wr.heap.size wr).alloc (Nat.le_refl _) (.cells #[.int .i64 y] 3)).grown hgrow (alloc_size_le wr _) own_low); have HO3 := hid hown'; clear hown' hgrow)
              | (go_at_call 49; refine (raWithout_int _ left (left.length - 1 - x) _ _ ?_ HE.out hat hl20).mono ?_; exact HSL.out.below HB3.out; rintro e w4 ⟨u2, rfl, hou2, hb4, _⟩; have HO4 := hid hou2; have HB4 := hid hb4; clear hou2 hb4)
              | fail)
            go_roundw
            case rel => exact ⟨j, left.eraseIdx (left.length - 1 - x), y :: out, by omega, rfl, HLE.out, HO4.out.mono (Nat.le_trans HBEL.out.size HB3.out.size), (HO3.out.below HB4.out).mono HBEL.out.size, HSUM2.out, HNX.out, fun i h1 h2 => by
              by_cases e : i = j
              · rw [e]; exact HCA.out
              · exact HALL.out i (by omega) h2, Below_chain (Below_chain HBEL.out HB3.out) HB4.out⟩
            case measure => simp [intOf]; try omega
        · have hin : inB cs[j] 0 (j : Int) = false := by simpa using hin
          have HF : Hid (cntB cs = false) := hid (cntB_no hj (by rw [cntAt, getD_at hj]; exact hin))
          have HX := hid (frRes_no HF.out)
          clear hll hol hoo hsum hfr hall hbel
          go_wp2_with (go_at_call 48; refine (l1In_any _ _ _ _).mono ?_; rintro e w' ⟨rfl, rfl⟩)
          go_ret2
          exact ⟨_, ret_sb4 HF.out.symm, by rw [HX.out]; exact Own.nil _ _, HBEL.out⟩
  · have h1 : inB (cs.length : Int) 0 12 = false := by simpa using h1
    have HF : Hid (cntB cs = false) := by
      show cntB cs = false
      rw [cntB, h1]; rfl
    have HX := hid (frRes_no HF.out)
    go_enter Try.func19, Try.ntmps19
    go_wp2_with (first | (go_at_call 46; refine (raItems_any _ _).mono ?_; rintro e w' ⟨rfl, rfl⟩) | fail)
    go_ret2
    exact ⟨_, ret_sb4 HF.out.symm, by rw [HX.out]; exact Own.nil _ _, Below.refl _ _⟩
end Go.Proofs.Ytgfafnejgbblhab
