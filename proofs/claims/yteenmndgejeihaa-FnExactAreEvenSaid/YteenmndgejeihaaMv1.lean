/- Contracts: moGood and spec.IsMove. Conditions: none. -/
import Derived.Test.YteenmndgejeihaaNums
import Derived.Test.YteenmndgejeihaaComb1
import Derived.Handy
namespace Go.Proofs.Yteenmndgejeihaa
open Go.RowKit
set_option linter.unusedVariables false

/-- a move of permutations of n -/
def mvB (n k i j : Int) : Bool := if k = 0 then inB j 1 (n - 1) && inB i 0 (j - 1) else if k = 1 ∨ k = 2 then inB i 2 n && decide (j = 0) else false
theorem mvB_0 {n i j : Int} : mvB n 0 i j = (inB j 1 (n - 1) && inB i 0 (j - 1)) := rfl
theorem mvB_12 {n k i j : Int} (h : k = 1 ∨ k = 2) : mvB n k i j = (inB i 2 n && decide (j = 0)) := by
  unfold mvB
  rw [if_neg (by omega), if_pos h]
theorem mvB_no {n k i j : Int} (h : k < 0 ∨ 2 < k) : mvB n k i j = false := by
  unfold mvB
  rw [if_neg (by omega), if_neg (by omega)]
abbrev mvObj (k i j : Int) : Obj := .cells #[.int .i64 k, .int .i64 i, .int .i64 j] 38
theorem moGood_any (n k i j : Int) (w : World) (hn : 0 ≤ n) (hn2 : n ≤ 1000) :
    Calls Try.prog 77 #[.int .i64 n, .agg #[.int .i64 k, .int .i64 i, .int .i64 j]] w fun e w' => e = .returned (.bool (mvB n k i j)) ∧ Below w.heap.size w w' := by
  have HB := hid ((Below.refl w.heap.size w).alloc (Nat.le_refl _) (mvObj k i j))
  have hw1 : IntKind.i64.wrap (n - 1) = n - 1 := IntWalk.i64_in _ (by omega)
  by_cases h0 : k = 0
  · subst h0
    cases hj : inB j 1 (n - 1) with
    | true =>
      have HJ := hid hj
      have hj2 := inB_iff.1 hj
      have hw2 : IntKind.i64.wrap (j - 1) = j - 1 := IntWalk.i64_in _ (by omega)
      have HV := hid (show mvB n 0 i j = inB i 0 (j - 1) by rw [mvB_0, hj]; rfl)
      clear hj hj2
      go_enter Try.func77, Try.ntmps77
      go_wp2_with (first | (go_at_call 63; refine (l1In_any _ _ _ _).mono ?_; rintro e w' ⟨rfl, rfl⟩; (try rw [HJ.out])) | fail)
      go_returns
      exact ⟨ret_bool HV.out.symm, HB.out⟩
    | false =>
      have HJ := hid hj
      have HV := hid (show mvB n 0 i j = false by rw [mvB_0, hj]; rfl)
      clear hj
      go_enter Try.func77, Try.ntmps77
      go_wp2_with (first | (go_at_call 63; refine (l1In_any _ _ _ _).mono ?_; rintro e w' ⟨rfl, rfl⟩; (try rw [HJ.out])) | fail)
      go_returns
      exact ⟨ret_bool HV.out.symm, HB.out⟩
  · by_cases h1 : k = 1 ∨ k = 2
    · have HV := hid (mvB_12 (n := n) (i := i) (j := j) h1)
      rcases h1 with rfl | rfl
      all_goals
        cases hi : inB i 2 n with
        | true =>
          have HI := hid hi
          rw [hi, Bool.true_and] at HV
          by_cases hj : j = 0
          · subst hj
            clear hi
            go_enter Try.func77, Try.ntmps77
            go_wp2_with (first | (go_at_call 63; refine (l1In_any _ _ _ _).mono ?_; rintro e w' ⟨rfl, rfl⟩; rw [HI.out]) | fail)
            go_returns
            exact ⟨ret_bool HV.out.symm, HB.out⟩
          · have hjb : (j == 0) = false := by simp [hj]
            rw [decide_eq_false hj] at HV
            clear hi
            go_enter Try.func77, Try.ntmps77
            go_wp2_with (first | (go_at_call 63; refine (l1In_any _ _ _ _).mono ?_; rintro e w' ⟨rfl, rfl⟩; rw [HI.out]) | fail)
            go_returns
            exact ⟨ret_bool HV.out.symm, HB.out⟩
        | false =>
          have HI := hid hi
          rw [hi, Bool.false_and] at HV
          clear hi
          go_enter Try.func77, Try.ntmps77
          go_wp2_with (first | (go_at_call 63; refine (l1In_any _ _ _ _).mono ?_; rintro e w' ⟨rfl, rfl⟩; rw [HI.out]) | fail)
          go_returns
          exact ⟨ret_bool HV.out.symm, HB.out⟩
    · have HV := hid (show mvB n k i j = false from mvB_no (by omega))
      have e0 : (k == 0) = false := by simp; omega
      have e1 : (k == 1) = false := by simp; omega
      have e2 : (k == 2) = false := by simp; omega
      clear h0 h1
      go_enter Try.func77, Try.ntmps77
      go_wp2_with fail
      go_returns
      exact ⟨ret_bool HV.out.symm, HB.out⟩
theorem ret_bb4 {a b c d : Bool} (h : a = c) (h2 : b = d) : Ending.returned (.tuple #[.bool a, .bool b]) = Ending.returned (.tuple #[.bool c, .bool d]) := by rw [h, h2]
def imV (n k i j : Int) : Bool := inB n 0 12 && mvB n k i j
theorem spec_IsMove_any (n k i j : Int) (w : World) :
    Calls Try.prog 28 #[.int .i64 n, .agg #[.int .i64 k, .int .i64 i, .int .i64 j]] w fun e w' => e = .returned (.tuple #[.bool (imV n k i j), .bool (inB n 0 12)]) ∧ Below w.heap.size w w' := by
  have HB := hid ((Below.refl w.heap.size w).alloc (Nat.le_refl _) (mvObj k i j))
  cases hn : inB n 0 12 with
  | true =>
    have hn2 := inB_iff.1 hn
    have HN := hid hn
    have HV := hid (show mvB n k i j = imV n k i j by rw [imV, hn]; rfl)
    clear hn
    go_enter Try.func28, Try.ntmps28
    go_wp2_with (first | (go_at_call 62; refine (raItems_any _ _).mono ?_; rintro e w' ⟨rfl, rfl⟩; rw [HN.out]) | (go_at_call 77; refine (moGood_any n k i j _ hn2.1 (by omega)).mono ?_; rintro e w1 ⟨rfl, hb1⟩; have HB1 := hid hb1; clear hb1) | fail)
    go_ret2
    exact ⟨ret_bb4 HV.out rfl, by first | exact HB1.out | exact Below_chain HB.out HB1.out⟩
  | false =>
    have HN := hid hn
    have HV := hid (show imV n k i j = false by rw [imV, hn]; rfl)
    clear hn
    go_enter Try.func28, Try.ntmps28
    go_wp2_with (first | (go_at_call 62; refine (raItems_any _ _).mono ?_; rintro e w' ⟨rfl, rfl⟩; rw [HN.out]) | fail)
    go_ret2
    exact ⟨ret_bb4 HV.out.symm rfl, by first | exact Below.refl _ _ | exact HB.out⟩
end Go.Proofs.Yteenmndgejeihaa
