/- Contracts: the closure of AreEven, slices.IndexFunc and ContainsFunc with it, impl.AreEven. Conditions: the slice reads as a list of moves. -/
import Derived.Test.YteenmndgejeihaaMvI5
namespace Go.Proofs.Yteenmndgejeihaa
open Go.RowKit
set_option linter.unusedVariables false
set_option maxRecDepth 4000

def noOdd (ms : List Mv) (t : Nat) : Bool := decide (0 ≤ msV (mGet ms t).1 (mGet ms t).2.1 (mGet ms t).2.2)
theorem isOdd_any (k i j : Int) (w : World) :
    Calls Try.prog 105 #[.agg #[.int .i64 k, .int .i64 i, .int .i64 j]] w fun e w' => e = .returned (.bool (decide (msV k i j < 0))) ∧ Below w.heap.size w w' := by
  have HB := hid ((Below.refl w.heap.size w).alloc (Nat.le_refl _) (mvObj k i j))
  obtain ⟨s, hs⟩ : ∃ s, s = msV k i j := ⟨_, rfl⟩
  have HS := hid hs
  rw [← hs]
  clear hs
  by_cases hn : s < 0
  · have HD := hid (show true = decide (s < 0) from (decide_eq_true hn).symm)
    go_enter Try.func105, Try.ntmps105
    go_wp2_with (first | (go_at_call 34; refine (impl_MoveSign_any k i j _).mono ?_; rintro e w1 ⟨rfl, hb1⟩; rw [← HS.out]; have HB1 := hid (Below_chain HB.out hb1); clear hb1) | fail)
    go_ret
    exact ⟨by first | exact ret_bool HD.out | rfl, HB1.out⟩
  · have HD := hid (show false = decide (s < 0) from (decide_eq_false hn).symm)
    go_enter Try.func105, Try.ntmps105
    go_wp2_with (first | (go_at_call 34; refine (impl_MoveSign_any k i j _).mono ?_; rintro e w1 ⟨rfl, hb1⟩; rw [← HS.out]; have HB1 := hid (Below_chain HB.out hb1); clear hb1) | fail)
    go_ret
    exact ⟨by first | exact ret_bool HD.out | rfl, HB1.out⟩
theorem IndexFunc_odd (v : Value) (ms : List Mv) (w : World) (h : ReadsM w v ms) :
    Calls Try.prog 126 #[v, .func (.func 105) #[] #[]] w fun e w' => ∃ r : Int, e = .returned (.int .i64 r) ∧ decide (0 ≤ r) = !allTo ms.length (noOdd ms) ∧ Below w.heap.size w w' := by
  obtain ⟨ao, c, rfl, hc1, hcm, h⟩ := h
  unfold maxLen at hcm
  have HD := hid h
  clear h
  go_enter Try.func126, Try.ntmps126
  go_wp2_with fail
  go_loopw [8] (fun i wr => ∃ t : Nat, t ≤ ms.length ∧ i = .int .i64 t ∧ allTo t (noOdd ms) = true ∧ Below w.heap.size w wr) (fun i _ => ms.length - (intOf i).toNat)
  case atStart => exact ⟨0, Nat.zero_le _, rfl, rfl, Below.refl _ _⟩
  case round =>
    obtain ⟨t, ht, rfl, hall, hbel⟩ := hrel
    have HA := hid hall
    have HB := hid hbel
    clear hall
    by_cases hlt : t < ms.length
    · rcases HD.out with h0 | ⟨b, off, rfl, hb, hc⟩
      · rw [h0] at hlt; simp at hlt
      obtain ⟨e0, e1, e2⟩ := hc t hlt
      have hc0 := (hbel.cell (p := ⟨b, off + t * 3, none⟩) (by exact hb)).trans e0
      have hc1' := (hbel.cell (p := ⟨b, off + t * 3 + 1, none⟩) (by exact hb)).trans e1
      have hc2 := (hbel.cell (p := ⟨b, off + t * 3 + 2, none⟩) (by exact hb)).trans e2
      have HK := hid (show noOdd ms t = decide (0 ≤ msV ms[t].1 ms[t].2.1 ms[t].2.2) by rw [noOdd, mGet_at hlt])
      obtain ⟨m, hm⟩ : ∃ m, m = ms[t] := ⟨_, rfl⟩
      rw [← hm] at hc0 hc1' hc2 HK
      obtain ⟨k, i, j⟩ := m
      simp only at hc0 hc1' hc2 HK
      clear e0 e1 e2 hc hm hbel
      by_cases hneg : msV k i j < 0
      · have HN := hid (decide_eq_true hneg)
        have HNO := hid (show noOdd ms t = false by rw [HK.out]; exact decide_eq_false (by omega))
        clear hneg
        go_wp2_with (first | (go_at_call 105; refine (isOdd_any k i j _).mono ?_; rintro e w1 ⟨rfl, hb1⟩; rw [HN.out]; have HB1 := hid (Below_chain HB.out hb1); clear hb1) | fail)
        go_ret
        exact ⟨(t : Int), rfl, by rw [allTo_no hlt HNO.out]; simp, HB1.out⟩
      · have HN := hid (decide_eq_false hneg)
        have HNO := hid (show noOdd ms t = true by rw [HK.out]; exact decide_eq_true (by omega))
        clear hneg
        go_wp2_with (first | (go_at_call 105; refine (isOdd_any k i j _).mono ?_; rintro e w1 ⟨rfl, hb1⟩; rw [HN.out]; have HB1 := hid (Below_chain HB.out hb1); clear hb1) | fail)
        go_roundw
        case rel => exact ⟨t + 1, by omega, by go_num, allTo_next HA.out HNO.out, HB1.out⟩
        case measure => simp [intOf]; omega
    · obtain rfl : t = ms.length := by omega
      clear hbel
      go_wp2_with fail
      go_ret
      exact ⟨-1, rfl, by rw [HA.out]; rfl, HB.out⟩
theorem ContainsFunc_odd (v : Value) (ms : List Mv) (w : World) (h : ReadsM w v ms) :
    Calls Try.prog 106 #[v, .func (.func 105) #[] #[]] w fun e w' => e = .returned (.bool (!allTo ms.length (noOdd ms))) ∧ Below w.heap.size w w' := by
  have HM := hid h
  clear h
  go_enter Try.func106, Try.ntmps106
  go_wp2_with (first | (go_at_call 126; refine (IndexFunc_odd _ ms _ HM.out).mono ?_; rintro e w1 ⟨r, rfl, hr, hb1⟩; have HR := hid hr; have HB1 := hid hb1; clear hr hb1) | fail)
  go_ret
  exact ⟨ret_bool HR.out, HB1.out⟩
theorem not_odd {n : Int} {ms : List Mv} (h : tkB n ms = true) : aeV n ms = allTo ms.length (noOdd ms) := by
  have hp := tk_parts h
  rw [aeV, h, Bool.true_and, Bool.eq_iff_iff, allTo_iff, allTo_iff]
  have e : ∀ t, t < ms.length → evAt ms t = noOdd ms t := fun t ht => by
    rw [evAt, noOdd, msV, if_pos (mvB_mono (hp.2.2.2 t ht) (by omega))]
  exact ⟨fun h t ht => by rw [← e t ht]; exact h t ht, fun h t ht => by rw [e t ht]; exact h t ht⟩
theorem impl_AreEven_any (n : Int) (v : Value) (ms : List Mv) (w : World) (h : ReadsM w v ms) :
    Calls Try.prog 57 #[.int .i64 n, v] w fun e w' => e = .returned (.tuple #[.bool (aeV n ms), .bool (tkB n ms)]) ∧ Below w.heap.size w w' := by
  have HM := hid h
  clear h
  cases ht : tkB n ms with
  | false =>
    have HT := hid ht
    have HV := hid (show aeV n ms = false by rw [aeV, ht]; rfl)
    clear ht
    go_enter Try.func57, Try.ntmps57
    go_wp2_with (first | (go_at_call 91; refine (moversOf_any n _ ms _ HM.out).mono ?_; rintro e w1 ⟨u, rfl, _, hb1⟩; rw [HT.out]; have HB1 := hid hb1; clear hb1) | fail)
    go_ret2
    exact ⟨ret_bb4 HV.out.symm rfl, HB1.out⟩
  | true =>
    have HT := hid ht
    have HV := hid (not_odd ht)
    clear ht
    go_enter Try.func57, Try.ntmps57
    go_wp2_with (first | (go_at_call 91; refine (moversOf_any n _ ms _ HM.out).mono ?_; rintro e w1 ⟨u, rfl, _, hb1⟩; rw [HT.out]; have HB1 := hid hb1; clear hb1) | (go_at_call 106; refine (ContainsFunc_odd _ ms _ (HM.out.below HB1.out)).mono ?_; rintro e w2 ⟨rfl, hb2⟩; have HB2 := hid (Below_chain HB1.out hb2); clear hb2) | fail)
    go_ret2
    exact ⟨ret_bb4 HV.out.symm rfl, HB2.out⟩
end Go.Proofs.Yteenmndgejeihaa
