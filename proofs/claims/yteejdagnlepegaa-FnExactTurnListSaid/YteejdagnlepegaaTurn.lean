/- Contracts: both TurnList functions. Conditions: the slice reads as a list of at most 2^20 numbers. -/
import Derived.Test.YteejdagnlepegaaFlip
import Derived.Test.YteejdagnlepegaaTake3
namespace Go.Proofs.Yteejdagnlepegaa
open Go.RowKit
set_option linter.unusedVariables false

def turnL (xs : List Int) (k : Nat) : List Int := xs.drop k ++ xs.take k
theorem turnL_length (xs : List Int) (k : Nat) : (turnL xs k).length = xs.length := by simp [turnL]; omega
theorem turnL_getD {xs : List Int} {k i : Nat} (hk : k < xs.length) (h : i < xs.length) : (turnL xs k).getD i 0 = xs.getD ((k + i) % xs.length) 0 := by
  unfold turnL
  by_cases h1 : i < xs.length - k
  · rw [List.getD_eq_getElem?_getD, List.getElem?_append_left (by simp; omega), List.getElem?_drop, ← List.getD_eq_getElem?_getD, Nat.mod_eq_of_lt (by omega)]
  · rw [List.getD_eq_getElem?_getD, List.getElem?_append_right (by simp; omega), List.length_drop, List.getElem?_take, if_pos (by omega), ← List.getD_eq_getElem?_getD]
    rw [Nat.mod_eq_sub_mod (by omega), Nat.mod_eq_of_lt (by omega)]
    congr 1
    omega
def tuB (n : Int) (xs : List Int) (r : Int) : Bool := wordsB n xs && inB r 0 ((xs.length : Int) - 1)
def tuRes (n : Int) (xs : List Int) (r : Int) : List Int := if tuB n xs r = true then turnL xs r.toNat else []
theorem tuRes_yes {n : Int} {xs : List Int} {r : Int} (h : tuB n xs r = true) : tuRes n xs r = turnL xs r.toNat := by unfold tuRes; rw [if_pos h]
theorem tuRes_no {n : Int} {xs : List Int} {r : Int} (h : tuB n xs r = false) : tuRes n xs r = [] := by unfold tuRes; rw [if_neg (by rw [h]; simp)]
theorem bound_TurnList (n : Int) (xs : List Int) (r : Int) : (tuRes n xs r).length ≤ 1048576 := by
  cases h : tuB n xs r with
  | false => rw [tuRes_no h]; simp
  | true =>
    rw [tuRes_yes h, turnL_length]
    simp only [tuB, Bool.and_eq_true] at h
    have := (wordsB_iff.1 h.1).2.1
    omega
theorem impl_TurnList_any (n : Int) (v : Value) (xs : List Int) (r : Int) (w : World) (_wn : (Lit.int .i64 n).wf = true) (h : Sits w v xs) (hl : xs.length ≤ 1048576) (_hwf : ∀ x ∈ xs, (Lit.int .i64 x).wf = true) (_wr : (Lit.int .i64 r).wf = true) :
    Calls Try.prog 19 #[.int .i64 n, v, .int .i64 r] w fun e w' => ∃ u, e = .returned (.tuple #[u, .bool (tuB n xs r)]) ∧ Own w' w.heap.size u (tuRes n xs r) ∧ Below w.heap.size w w' := by
  have HS := hid h
  obtain ⟨b, off, c, rfl, hc1, hm, hb, hc⟩ := h
  have HC := hid hc
  clear hc
  by_cases h1 : wordsB n xs = true
  · by_cases h2 : 0 ≤ r
    · by_cases h3 : r < (xs.length : Int)
      · have HF : Hid (tuB n xs r = true) := by show tuB n xs r = true; rw [tuB, h1]; simp [inB]; omega
        obtain ⟨k, rfl⟩ := Int.eq_ofNat_of_zero_le h2
        have hk : k < xs.length := by omega
        have HX : Hid (tuRes n xs (k : Int) = turnL xs k) := hid (tuRes_yes HF.out)
        have hmk := run_make_ints xs.length hl w
        have HM := hid (rowTo_made (w := w) (turnL_length xs k))
        have HB0 := hid ((Below.refl w.heap.size w).alloc (Nat.le_refl _) (.cells (madeCells #[.int .i64 0] xs.length) 3))
        have HL := hid (turnL_length xs k)
        go_enter Try.func19, Try.ntmps19
        go_wp2_with (first | (go_at_call 34; refine (areBitWords_any _ _ xs _ HS.out).mono ?_; rintro e w' ⟨rfl, rfl⟩) | fail)
        clear hmk
        go_loopw [9, 29] (fun _ i wr => ∃ j : Nat, j ≤ xs.length ∧ i = .int .i64 j ∧ wr.rowIs w.heap.size 3 (turnL xs k).length (fun t => .int .i64 (rowTo (turnL xs k) j t)) ∧ Below w.heap.size w wr) (fun _ i _ => xs.length - (intOf i).toNat)
        case atStart => exact ⟨0, Nat.zero_le _, rfl, HM.out, HB0.out⟩
        case round =>
          obtain ⟨j, hj, rfl, hrow, hbel⟩ := hrel
          by_cases hlt : j < xs.length
          · have hf := hrow.frozen j
            obtain ⟨z, hz⟩ : ∃ z, wr.cell? ⟨w.heap.size, j, none⟩ = some z := ⟨_, hrow.cell (by rw [HL.out]; exact hlt)⟩
            obtain ⟨q, hq⟩ : ∃ q, q = (k + j) % xs.length := ⟨_, rfl⟩
            have hq1 : q < xs.length := by rw [hq]; exact Nat.mod_lt _ (by omega)
            have hcx : wr.cell? ⟨b, off + q, none⟩ = some (.int .i64 xs[q]) := (hbel.cell (by exact hb)).trans (HC.out q hq1)
            have u1 : ((k : Int) + (j : Int)) % (xs.length : Int) = (q : Int) := by rw [hq]; simp
            have u2 : ((k : Int) + (j : Int)).tmod (xs.length : Int) = (q : Int) := by rw [Int.tmod_eq_emod_of_nonneg (by omega)]; exact u1
            have u3 : ((xs.length : Int) == 0) = false := beq_eq_false_iff_ne.2 (by omega)
            have u4 : (0 : Int) ≤ (q : Int) := by omega
            have u5 : (q : Int) < (xs.length : Int) := by omega
            have u6 : IntKind.i64.wrap (q : Int) = (q : Int) := IntWalk.i64_in _ (by omega)
            have HD : xs[q] = (turnL xs k).getD j 0 := by rw [turnL_getD hk hlt, ← hq, getD_at hq1]
            have HSS := hid (rowTo_set (by rw [HL.out]; exact hlt) HD hrow)
            have HB := hid (hbel.setCell (p := ⟨w.heap.size, j, none⟩) (Nat.le_refl _) (.int .i64 xs[q]))
            clear hrow hbel hq HD
            go_wp2
            go_roundw
            case rel => exact ⟨j + 1, by omega, by go_num, HSS.out, HB.out⟩
            case measure => simp [intOf]; omega
          · obtain rfl : j = xs.length := by omega
            have HR := hid hrow
            clear hrow
            go_wp2
            go_ret2
            exact ⟨_, ret_sb7 HF.out.symm, by rw [HX.out]; exact rowTo_own HL.out hl HR.out, hbel⟩
      · have HF : Hid (tuB n xs r = false) := by show tuB n xs r = false; rw [tuB, h1]; simp [inB]; omega
        have HX := hid (tuRes_no HF.out)
        go_enter Try.func19, Try.ntmps19
        go_wp2_with (first | (go_at_call 34; refine (areBitWords_any _ _ xs _ HS.out).mono ?_; rintro e w' ⟨rfl, rfl⟩) | fail)
        go_ret2
        exact ⟨_, ret_sb7 HF.out.symm, by rw [HX.out]; exact Own.nil _ _, Below.refl _ _⟩
    · have HF : Hid (tuB n xs r = false) := by show tuB n xs r = false; rw [tuB, h1]; simp [inB]; omega
      have HX := hid (tuRes_no HF.out)
      go_enter Try.func19, Try.ntmps19
      go_wp2_with (first | (go_at_call 34; refine (areBitWords_any _ _ xs _ HS.out).mono ?_; rintro e w' ⟨rfl, rfl⟩) | fail)
      go_ret2
      exact ⟨_, ret_sb7 HF.out.symm, by rw [HX.out]; exact Own.nil _ _, Below.refl _ _⟩
  · have h1 : wordsB n xs = false := by simpa using h1
    have HF : Hid (tuB n xs r = false) := by show tuB n xs r = false; rw [tuB, h1]; rfl
    have HX := hid (tuRes_no HF.out)
    go_enter Try.func19, Try.ntmps19
    go_wp2_with (first | (go_at_call 34; refine (areBitWords_any _ _ xs _ HS.out).mono ?_; rintro e w' ⟨rfl, rfl⟩) | fail)
    go_ret2
    exact ⟨_, ret_sb7 HF.out.symm, by rw [HX.out]; exact Own.nil _ _, Below.refl _ _⟩
theorem spec_TurnList_any (n : Int) (v : Value) (xs : List Int) (r : Int) (w : World) (_wn : (Lit.int .i64 n).wf = true) (h : Sits w v xs) (hl : xs.length ≤ 1048576) (_hwf : ∀ x ∈ xs, (Lit.int .i64 x).wf = true) (_wr : (Lit.int .i64 r).wf = true) :
    Calls Try.prog 18 #[.int .i64 n, v, .int .i64 r] w fun e w' => ∃ u, e = .returned (.tuple #[u, .bool (tuB n xs r)]) ∧ Own w' w.heap.size u (tuRes n xs r) ∧ Below w.heap.size w w' := by
  have HS := hid h
  obtain ⟨b, off, c, rfl, hc1, hm, hb, hc⟩ := h
  by_cases h1 : wordsB n xs = true
  · by_cases h2 : inB r 0 ((xs.length : Int) - 1) = true
    · have HF : Hid (tuB n xs r = true) := by show tuB n xs r = true; rw [tuB, h1, h2]; rfl
      have hr := inB_iff.1 h2
      obtain ⟨k, rfl⟩ := Int.eq_ofNat_of_zero_le hr.1
      have hk : k < xs.length := by omega
      have HX : Hid (tuRes n xs (k : Int) = turnL xs k) := hid (tuRes_yes HF.out)
      obtain ⟨i0, hi, hz0, hz1, hz2⟩ := info_parts Try.info3
      have HT := hid (Sits_drop (w := w) (off := off) k (by omega) hc1 hm hb hc)
      have HC := hid hc
      have p1 : (0 : Int) ≤ (k : Int) := by omega
      have p2 : (k : Int) ≤ (c : Int) := by omega
      have p3 : (k : Int) ≤ (xs.length : Int) := by omega
      have p5 : (xs.length : Int) ≤ (c : Int) := by omega
      have p6 : k ≤ c := by omega
      have p7 : ¬ c = k := by omega
      have p8 : k < c := by omega
      have p9 : k ≤ xs.length := by omega
      have HLT := hid (show (xs.drop k).length = xs.length - k by simp)
      have HSR := hid (show ∀ i (hi : i < (xs.take k).length), w.cell? ⟨b, off + i, none⟩ = some (.int .i64 (xs.take k)[i]) from fun i hi => by
        have hi2 : i < k := by simp at hi; omega
        rw [hc i (by omega)]
        simp)
      have HA := hid (show xs.length - k + k ≤ maxLen by unfold maxLen; omega)
      have HB := hid (show (xs.length - k + k) * 8 ≤ 140737488355328 by omega)
      have HN := hid (show ((xs.take k).map (Value.int .i64)).length = k * 1 by simp; omega)
      have HTL := hid (show (xs.drop k).length ≤ 1048576 by simp; omega)
      clear hc hr
      go_enter Try.func18, Try.ntmps18
      go_wp2_with (first | (go_at_call 33; refine (gcWords_any _ _ xs _ HS.out).mono ?_; rintro e w' ⟨rfl, rfl⟩) | (go_at_call 35; refine (l1In_any _ _ _ _).mono ?_; rintro e w' ⟨rfl, rfl⟩; rw [h2]) | fail)
      go_region_held3 (fun _ => True) (trivial)
        (first
          | (go_at_call 36; refine (l1Own_any _ (xs.drop k) _ ?_ HTL.out).mono ?_; exact HT.out.below (Below.drew (Below.refl _ _)); rintro e w1 ⟨u, rfl, hou, hb1, hn1⟩; have hrow : w1.ownsRow w.heap.size 3 1 u (xs.length - k) ((xs.drop k).map (Value.int .i64)) := (by have := hou.row; rwa [HLT.out] at this); have HROW := hid hrow; have HSRC := hid (show ∀ (j : Nat) (u : Value), ((xs.take k).map (Value.int .i64))[j]? = some u → w1.cell? ((⟨b, off, none⟩ : Addr).add j) = some u from Sits.src (n := 0) (c := 0) (fun i hi => (hb1.cell (by exact hb)).trans (HSR.out i hi))); have HBS := hid (show w.heap.size ≤ w1.heap.size from hb1.size); have HB1 := hid hb1; have HN1 := hid hn1; clear hrow hou hb1 hn1)
          | (refine step_append_any _ rfl _ _ _ rfl w.heap.size 3 i0 _ 1 8 Try.underlying22 hi hz0 hz1 hz2 rfl (Nat.zero_lt_one) u (xs.length - k) ((xs.drop k).map (Value.int .i64)) rfl HROW.out ⟨b, off, none⟩ k c ((xs.take k).map (Value.int .i64)) rfl HN.out HSRC.out (ints_one _) HA.out HB.out HBS.out ?_; intro v' w2 hown' hgrow hnil)
          | fail)
      have hfin : Own w2 w.heap.size v' (turnL xs k) := by
        unfold Own turnL
        have e1 : (xs.drop k ++ xs.take k).length = xs.length - k + k := by simp; omega
        rw [e1, List.map_append]
        exact hown'
      have hbf : Below w.heap.size w w2 := (Below.trans (Below.drew (Below.refl _ _)) HB1.out).grown hgrow HBS.out (fun q hq => (World.ownsRow.lt HROW.out q hq).1)
      clear hown' hgrow hnil
      go_wp2
      go_ret2
      exact ⟨_, ret_sb7 HF.out.symm, by rw [HX.out]; exact hfin, hbf⟩
    · have h2 : inB r 0 ((xs.length : Int) - 1) = false := by simpa using h2
      have HF : Hid (tuB n xs r = false) := by show tuB n xs r = false; rw [tuB, h1, h2]; rfl
      have HX := hid (tuRes_no HF.out)
      clear hc
      go_enter Try.func18, Try.ntmps18
      go_wp2_with (first | (go_at_call 33; refine (gcWords_any _ _ xs _ HS.out).mono ?_; rintro e w' ⟨rfl, rfl⟩) | (go_at_call 35; refine (l1In_any _ _ _ _).mono ?_; rintro e w' ⟨rfl, rfl⟩; rw [h2]) | fail)
      go_ret2
      exact ⟨_, ret_sb7 HF.out.symm, by rw [HX.out]; exact Own.nil _ _, Below.refl _ _⟩
  · have h1 : wordsB n xs = false := by simpa using h1
    have HF : Hid (tuB n xs r = false) := by show tuB n xs r = false; rw [tuB, h1]; rfl
    have HX := hid (tuRes_no HF.out)
    clear hc
    go_enter Try.func18, Try.ntmps18
    go_wp2_with (first | (go_at_call 33; refine (gcWords_any _ _ xs _ HS.out).mono ?_; rintro e w' ⟨rfl, rfl⟩) | fail)
    go_ret2
    exact ⟨_, ret_sb7 HF.out.symm, by rw [HX.out]; exact Own.nil _ _, Below.refl _ _⟩
end Go.Proofs.Yteejdagnlepegaa
