/- Contracts: moGood at any number, moTask. Conditions: the slice reads as a list of moves of 64 bits. -/
import Derived.Test.YteenmndgejeihaaMv4
namespace Go.Proofs.Yteenmndgejeihaa
open Go.RowKit
set_option linter.unusedVariables false

abbrev Mv := Int × Int × Int
/-- v is a slice of moves that reads as ms -/
def ReadsM (w : World) (v : Value) (ms : List Mv) : Prop :=
  ∃ ao c, v = .slice ao ms.length c ∧ ms.length ≤ c ∧ c ≤ maxLen ∧
    (ms = [] ∨ ∃ b off, ao = some ⟨b, off, none⟩ ∧ b < w.heap.size ∧ ∀ t (h : t < ms.length), w.cell? ⟨b, off + t * 3, none⟩ = some (.int .i64 ms[t].1) ∧ w.cell? ⟨b, off + t * 3 + 1, none⟩ = some (.int .i64 ms[t].2.1) ∧ w.cell? ⟨b, off + t * 3 + 2, none⟩ = some (.int .i64 ms[t].2.2))
theorem ReadsM.below {w w' : World} {v : Value} {ms : List Mv} (h : ReadsM w v ms) (hb : Below w.heap.size w w') : ReadsM w' v ms := by
  obtain ⟨ao, c, rfl, h1, h2, h⟩ := h
  refine ⟨ao, c, rfl, h1, h2, ?_⟩
  rcases h with h | ⟨b, off, rfl, hlt, hc⟩
  · exact .inl h
  · exact .inr ⟨b, off, rfl, Nat.lt_of_lt_of_le hlt hb.size, fun t ht => ⟨(hb.cell (by exact hlt)).trans (hc t ht).1, (hb.cell (by exact hlt)).trans (hc t ht).2.1, (hb.cell (by exact hlt)).trans (hc t ht).2.2⟩⟩
/-- numbers of 64 bits -/
def wfM (ms : List Mv) : Prop := ∀ m ∈ ms, (Lit.int .i64 m.1).wf = true ∧ (Lit.int .i64 m.2.1).wf = true ∧ (Lit.int .i64 m.2.2).wf = true
def mvW (n k i j : Int) : Bool := if k = 0 then inB j 1 (wrap64 (n - 1)) && inB i 0 (j - 1) else if k = 1 ∨ k = 2 then inB i 2 n && decide (j = 0) else false
theorem mvW_0 {n i j : Int} : mvW n 0 i j = (inB j 1 (wrap64 (n - 1)) && inB i 0 (j - 1)) := rfl
theorem mvW_12 {n k i j : Int} (h : k = 1 ∨ k = 2) : mvW n k i j = (inB i 2 n && decide (j = 0)) := by
  unfold mvW
  rw [if_neg (by omega), if_pos h]
theorem mvW_no {n k i j : Int} (h : k < 0 ∨ 2 < k) : mvW n k i j = false := by
  unfold mvW
  rw [if_neg (by omega), if_neg (by omega)]
theorem mvW_mvB {n k i j : Int} (h : 0 ≤ n) (h2 : n ≤ 1000) : mvW n k i j = mvB n k i j := by
  unfold mvW mvB
  rw [show wrap64 (n - 1) = n - 1 from IntWalk.wrap64_in _ (by omega)]
theorem wf_range {x : Int} (h : (Lit.int .i64 x).wf = true) : -9223372036854775808 ≤ x ∧ x ≤ 9223372036854775807 := by
  have e1 : IntKind.i64.min = -9223372036854775808 := rfl
  have e2 : IntKind.i64.max = 9223372036854775807 := rfl
  simp only [Lit.wf, Bool.and_eq_true, decide_eq_true_eq, e1, e2] at h
  exact h
theorem moGood_gen (n k i j : Int) (w : World) (hjw : (Lit.int .i64 j).wf = true) :
    Calls Try.prog 77 #[.int .i64 n, .agg #[.int .i64 k, .int .i64 i, .int .i64 j]] w fun e w' => e = .returned (.bool (mvW n k i j)) ∧ Below w.heap.size w w' := by
  have HB := hid ((Below.refl w.heap.size w).alloc (Nat.le_refl _) (mvObj k i j))
  have hjr := wf_range hjw
  clear hjw
  by_cases h0 : k = 0
  · subst h0
    cases hj : inB j 1 (wrap64 (n - 1)) with
    | true =>
      have HJ := hid hj
      have hj2 := (inB_iff.1 hj).1
      have hw2 : IntKind.i64.wrap (j - 1) = j - 1 := IntWalk.i64_in _ (by omega)
      have HV := hid (show mvW n 0 i j = inB i 0 (j - 1) by rw [mvW_0, hj]; rfl)
      clear hj hj2 hjr
      go_enter Try.func77, Try.ntmps77
      go_wp2_with (first | (go_at_call 63; refine (l1In_any _ _ _ _).mono ?_; rintro e w' ⟨rfl, rfl⟩; (try rw [HJ.out])) | fail)
      go_returns
      exact ⟨ret_bool HV.out.symm, HB.out⟩
    | false =>
      have HJ := hid hj
      have HV := hid (show mvW n 0 i j = false by rw [mvW_0, hj]; rfl)
      clear hj hjr
      go_enter Try.func77, Try.ntmps77
      go_wp2_with (first | (go_at_call 63; refine (l1In_any _ _ _ _).mono ?_; rintro e w' ⟨rfl, rfl⟩; (try rw [HJ.out])) | fail)
      go_returns
      exact ⟨ret_bool HV.out.symm, HB.out⟩
  · by_cases h1 : k = 1 ∨ k = 2
    · have HV := hid (mvW_12 (n := n) (i := i) (j := j) h1)
      rcases h1 with rfl | rfl
      all_goals
        cases hi : inB i 2 n with
        | true =>
          have HI := hid hi
          rw [hi, Bool.true_and] at HV
          by_cases hj : j = 0
          · subst hj
            clear hi
            go_enter Try.func77, Try.ntmps77
            go_wp2_with (first | (go_at_call 63; refine (l1In_any _ _ _ _).mono ?_; rintro e w' ⟨rfl, rfl⟩; rw [HI.out]) | fail)
            go_returns
            exact ⟨ret_bool HV.out.symm, HB.out⟩
          · have hjb : (j == 0) = false := by simp [hj]
            rw [decide_eq_false hj] at HV
            clear hi
            go_enter Try.func77, Try.ntmps77
            go_wp2_with (first | (go_at_call 63; refine (l1In_any _ _ _ _).mono ?_; rintro e w' ⟨rfl, rfl⟩; rw [HI.out]) | fail)
            go_returns
            exact ⟨ret_bool HV.out.symm, HB.out⟩
        | false =>
          have HI := hid hi
          rw [hi, Bool.false_and] at HV
          clear hi
          go_enter Try.func77, Try.ntmps77
          go_wp2_with (first | (go_at_call 63; refine (l1In_any _ _ _ _).mono ?_; rintro e w' ⟨rfl, rfl⟩; rw [HI.out]) | fail)
          go_returns
          exact ⟨ret_bool HV.out.symm, HB.out⟩
    · have HV := hid (show mvW n k i j = false from mvW_no (by omega))
      have e0 : (k == 0) = false := by simp; omega
      have e1 : (k == 1) = false := by simp; omega
      have e2 : (k == 2) = false := by simp; omega
      clear h0 h1
      go_enter Try.func77, Try.ntmps77
      go_wp2_with fail
      go_returns
      exact ⟨ret_bool HV.out.symm, HB.out⟩
def mGet (ms : List Mv) (t : Nat) : Mv := ms.getD t (0, 0, 0)
theorem mGet_at {ms : List Mv} {t : Nat} (h : t < ms.length) : mGet ms t = ms[t] := by simp [mGet, List.getD_eq_getElem?_getD, h]
def mvAt (n : Int) (ms : List Mv) (t : Nat) : Bool := mvB n (mGet ms t).1 (mGet ms t).2.1 (mGet ms t).2.2
def mvAtW (n : Int) (ms : List Mv) (t : Nat) : Bool := mvW n (mGet ms t).1 (mGet ms t).2.1 (mGet ms t).2.2
/-- moves of permutations of n, for lists -/
def tkB (n : Int) (ms : List Mv) : Bool := inB n 1 5 && (decide (ms.length ≤ 12) && allTo ms.length (mvAt n ms))
theorem tkB_of (n : Int) (ms : List Mv) : (allTo ms.length (mvAtW n ms) && (inB n 1 5 && decide (ms.length ≤ 12))) = tkB n ms := by
  unfold tkB
  cases hn : inB n 1 5 with
  | false => simp
  | true =>
    have h := inB_iff.1 hn
    have e : mvAtW n ms = mvAt n ms := by
      funext t
      exact mvW_mvB (by omega) (by omega)
    rw [e]
    cases allTo ms.length (mvAt n ms) <;> simp
set_option maxHeartbeats 1000000 in
theorem moTask_any (n : Int) (v : Value) (ms : List Mv) (w : World) (h : ReadsM w v ms) (hw : wfM ms) :
    Calls Try.prog 87 #[.int .i64 n, v] w fun e w' => e = .returned (.bool (tkB n ms)) ∧ Below w.heap.size w w' := by
  obtain ⟨ao, c, rfl, hc1, hcm, h⟩ := h
  unfold maxLen at hcm
  have HT := hid (tkB_of n ms)
  rcases h with h | ⟨b, off, rfl, hb, hc⟩
  · subst h
    have HV := hid (show tkB n [] = inB n 1 5 by rw [tkB]; simp [allTo_zero])
    cases hn : inB n 1 5 with
    | true =>
      have HN := hid hn
      rw [hn] at HV
      clear hn
      go_enter Try.func87, Try.ntmps87
      go_wp2_with fail
      refine wp_loop_rounds 1 ?_
      rw [rounds_succ]
      go_wp2_with (first | (go_at_call 63; refine (l1In_any _ _ _ _).mono ?_; rintro e w' ⟨rfl, rfl⟩; rw [HN.out]) | fail)
      go_returns
      exact ⟨ret_bool HV.out.symm, Below.refl _ _⟩
    | false =>
      have HN := hid hn
      rw [hn] at HV
      clear hn
      go_enter Try.func87, Try.ntmps87
      go_wp2_with fail
      refine wp_loop_rounds 1 ?_
      rw [rounds_succ]
      go_wp2_with (first | (go_at_call 63; refine (l1In_any _ _ _ _).mono ?_; rintro e w' ⟨rfl, rfl⟩; rw [HN.out]) | fail)
      go_returns
      exact ⟨ret_bool HV.out.symm, Below.refl _ _⟩
  · have HC := hid hc
    have HW := hid hw
    clear hc hw
    go_enter Try.func87, Try.ntmps87
    go_wp2_with fail
    go_loopw [9] (fun i wr => ∃ t : Nat, t ≤ ms.length ∧ i = .int .i64 t ∧ allTo t (mvAtW n ms) = true ∧ Below w.heap.size w wr) (fun i _ => ms.length - (intOf i).toNat)
    case atStart => exact ⟨0, Nat.zero_le _, rfl, rfl, Below.refl _ _⟩
    case round =>
      obtain ⟨t, ht, rfl, hall, hbel⟩ := hrel
      have HA := hid hall
      have HB := hid hbel
      clear hall
      by_cases hlt : t < ms.length
      · obtain ⟨h0, h1, h2⟩ := HC.out t hlt
        have hc0 := (hbel.cell (p := ⟨b, off + t * 3, none⟩) (by exact hb)).trans h0
        have hc1' := (hbel.cell (p := ⟨b, off + t * 3 + 1, none⟩) (by exact hb)).trans h1
        have hc2 := (hbel.cell (p := ⟨b, off + t * 3 + 2, none⟩) (by exact hb)).trans h2
        have HK := hid (show mvAtW n ms t = mvW n ms[t].1 ms[t].2.1 ms[t].2.2 by rw [mvAtW, mGet_at hlt])
        have HWT := hid (HW.out _ (List.getElem_mem hlt)).2.2
        obtain ⟨m, hm⟩ : ∃ m, m = ms[t] := ⟨_, rfl⟩
        rw [← hm] at hc0 hc1' hc2 HK HWT
        obtain ⟨k, i, j⟩ := m
        simp only at hc0 hc1' hc2 HK HWT
        clear h0 h1 h2 hbel hm
        cases hg : mvW n k i j with
        | true =>
          have HG := hid hg
          clear hg
          go_wp2_with (first | (go_at_call 77; refine (moGood_gen n k i j _ HWT.out).mono ?_; rintro e w1 ⟨rfl, hb1⟩; rw [HG.out]; have HB1 := hid (Below_chain (HB.out.alloc HB.out.size (mvObj k i j)) hb1); clear hb1) | fail)
          go_roundw
          case rel => exact ⟨t + 1, by omega, by go_num, allTo_next HA.out (HK.out.trans HG.out), HB1.out⟩
          case measure => simp [intOf]; omega
        | false =>
          have HG := hid hg
          clear hg
          go_wp2_with (first | (go_at_call 77; refine (moGood_gen n k i j _ HWT.out).mono ?_; rintro e w1 ⟨rfl, hb1⟩; rw [HG.out]; have HB1 := hid (Below_chain (HB.out.alloc HB.out.size (mvObj k i j)) hb1); clear hb1) | fail)
          go_returns
          exact ⟨ret_bool (by rw [← HT.out, allTo_no hlt (HK.out.trans HG.out)]; rfl), HB1.out⟩
      · obtain rfl : t = ms.length := by omega
        rw [HA.out, Bool.true_and] at HT
        clear hbel
        cases hn : inB n 1 5 with
        | true =>
          have HN := hid hn
          rw [hn, Bool.true_and] at HT
          clear hn
          go_wp2_with (first | (go_at_call 63; refine (l1In_any _ _ _ _).mono ?_; rintro e w' ⟨rfl, rfl⟩; rw [HN.out]) | fail)
          go_returns
          exact ⟨ret_bool (by rw [← HT.out, Bool.eq_iff_iff, decide_eq_true_eq, decide_eq_true_eq]; omega), HB.out⟩
        | false =>
          have HN := hid hn
          rw [hn, Bool.false_and] at HT
          clear hn
          go_wp2_with (first | (go_at_call 63; refine (l1In_any _ _ _ _).mono ?_; rintro e w' ⟨rfl, rfl⟩; rw [HN.out]) | fail)
          go_returns
          exact ⟨ret_bool HT.out, HB.out⟩
end Go.Proofs.Yteenmndgejeihaa
