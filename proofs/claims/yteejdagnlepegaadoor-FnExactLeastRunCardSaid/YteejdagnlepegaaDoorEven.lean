/- Contracts: gcAround, slices.Max, slices.Min and both IsEvenlyChanged functions. Conditions: the slice reads as a list of at most 2^20 numbers; the table of math/bits holds what the program's text lays. -/
import Derived.Test.YteejdagnlepegaaDoorRound2
namespace Go.Proofs.YteejdagnlepegaaDoor
open Go.RowKit
set_option linter.unusedVariables false

theorem irB_facts {n : Int} {xs : List Int} (h : irB n xs = true) : wordsB n xs = true ∧ 0 < xs.length ∧ xs.length ≤ 1024 ∧ deltasB (ringL xs) = true ∧ wordsB n (ringL xs) = true ∧ ∃ m : Nat, n = m ∧ 1 ≤ m ∧ m ≤ 10 := by
  have h1 : wordsB n xs = true := by simp only [irB, Bool.and_eq_true] at h; exact h.1
  have h2 : codeB n xs = true ∧ decide (0 ≤ lastD xs) = true := by simp only [irB, roundB, Bool.and_eq_true] at h; exact h.2
  obtain ⟨g1, g2, g3⟩ := wordsB_iff.1 h1
  obtain ⟨f1, f2, f3⟩ := codeB_facts g1 h2.1
  refine ⟨h1, f2, f3, by rw [ring_deltas f2 f1]; exact h2.2, wordsB_iff.2 ⟨g1, by rw [ringL_length]; omega, fun i hi => ?_⟩, pow_nat g1⟩
  rw [ringL_length] at hi
  by_cases h4 : i < xs.length
  · rw [ringL_getD h4]; exact g3 i h4
  · obtain rfl : i = xs.length := by omega
    rw [ringL_last]; exact g3 0 f2
set_option maxHeartbeats 4000000 in
theorem gcAround_any (v : Value) (xs : List Int) (w : World) (h : Sits w v xs) (hsm : small xs) (h0 : 0 < xs.length) (hl : xs.length ≤ 1024) :
    Calls Tryd.prog 38 #[v] w fun e w' => ∃ u, e = .returned u ∧ Own w' w.heap.size u (deltasR (ringL xs)) ∧ Below w.heap.size w w' := by
  have HV := hid h
  obtain ⟨b, off, c, rfl, hc1, hm, hb, hc⟩ := h
  obtain ⟨y, hy, hy2⟩ := hsm 0 h0
  have HRS := hid (ring_small hsm h0)
  have HY := hid hy
  have HRL := hid (show (ringL xs).length ≤ 1048576 by rw [ringL_length]; omega)
  have HRP := hid (show 0 < (ringL xs).length by rw [ringL_length]; omega)
  have hcf : w.cell? ⟨b, off, none⟩ = some (.int .i64 (y : Int)) := by
    have h0' := hc 0 h0
    rw [Nat.add_zero, ← getD_at h0, hy] at h0'
    exact h0'
  have hcfd : w.drew.cell? ⟨b, off, none⟩ = some (.int .i64 (y : Int)) := hcf
  have e5 : (0 : Int) < (xs.length : Int) := by omega
  obtain ⟨i0, hi, hz0, hz1, hz2⟩ := info_parts Tryd.info3
  have hA : xs.length + 1 ≤ maxLen := by unfold maxLen; omega
  have hB : (xs.length + 1) * 8 ≤ 140737488355328 := by omega
  have hl20 : xs.length ≤ 1048576 := by omega
  clear hc hsm hy
  go_enter Tryd.func38, Tryd.ntmps38
  go_wp2_with fail
  go_region_held3 (fun w' => w'.cell? ⟨b, off, none⟩ = some (.int .i64 (y : Int)))
    (first | exact hcfd | exact (HB4.out.cell (by exact hb)).trans hcf | exact (HB3.out.cell (by exact hb)).trans hcf | exact (HB2.out.cell (by exact hb)).trans hcf | exact ((HB2.out.alloc HB2.out.size _).cell (by exact hb)).trans hcf | exact ((Below.drew_alloc _).cell (by exact hb)).trans hcf | go_keep | fail)
    (first
      | (go_at_call 55; refine (l1Own_any _ xs _ ?_ hl20).mono ?_; (exact HV.out.below (Below.refl _ _).drew); rintro e w2 ⟨u2, rfl, ho2, hb2, _⟩; have HO2 := hid ho2; have HB2 := hid (Below_chain (Below.refl w.heap.size w).drew hb2); clear ho2 hb2)
      | (go_at_call 55; refine (l1Own_any _ xs _ ?_ hl20).mono ?_; (exact HV.out.below (Below.drew_alloc _)); rintro e w2 ⟨u2, rfl, ho2, hb2, _⟩; have HO2 := hid ho2; have HLC := hid (lit_cell hb2); have HSZ2 := hid (show w.heap.size + 1 ≤ w2.heap.size by have := hb2.size; simpa using this); have HB2 := hid (Below_chain (Below.drew_alloc (w := w) (.cells #[.int .i64 (y : Int)] 3)) hb2); clear ho2 hb2)
      | (refine step_append_any _ rfl _ _ _ rfl w.heap.size 3 i0 (.int .i64 0) 1 8 Tryd.underlying22 hi hz0 hz1 hz2 rfl Nat.zero_lt_one u2 xs.length (xs.map (Value.int .i64)) rfl (row_late HO2.out rfl _) ⟨w2.heap.size, 0, none⟩ 1 1 [.int .i64 (y : Int)] rfl rfl (fun j u hj => new_cell1 j hj) (one_cell9 _ _) hA hB (Nat.le_trans HB2.out.size (by simp)) ?_; intro v' w3 hown' hgrow hnil; have HO3 := hid (ring_own HY.out hown'); have HB3 := hid ((HB2.out.alloc HB2.out.size _).grown hgrow (Nat.le_trans HB2.out.size (by simp)) (fun q hq => (World.ownsRow.lt (row_now HO2.out rfl) q hq).1)); clear hown' hgrow hnil)
      | (refine step_append_any _ rfl _ _ _ rfl (w.heap.size + 1) 3 i0 (.int .i64 0) 1 8 Tryd.underlying22 hi hz0 hz1 hz2 rfl Nat.zero_lt_one u2 xs.length (xs.map (Value.int .i64)) rfl (row_now (by simpa using HO2.out) rfl) ⟨w.heap.size, 0, none⟩ 1 1 [.int .i64 (y : Int)] rfl rfl HLC.out (one_cell9 _ _) hA hB HSZ2.out ?_; intro v' w3 hown' hgrow hnil; have HO3 := hid ((ring_own HY.out hown').mono (Nat.le_succ _)); have HB3 := hid (HB2.out.grown hgrow HB2.out.size (fun q hq => Nat.le_of_succ_le (World.ownsRow.lt (row_now (by simpa using HO2.out) rfl) q hq).1)); clear hown' hgrow hnil)
      | (go_at_call 29; refine (gcDeltas_any _ (ringL xs) _ (HO3.out.sits_pos HRP.out) HRS.out HRL.out).mono ?_; rintro e w4 ⟨u4, rfl, ho4, hb4⟩; have HO4 := hid ho4; have HB4 := hid (Below_chain HB3.out hb4); clear ho4 hb4)
      | fail)
  all_goals
    go_wp2_with fail
    go_ret
    exact ⟨_, rfl, HO4.out.mono HB3.out.size, HB4.out⟩
def evenAt (cs : List Int) (i : Nat) : Bool := allTo cs.length (fun j => decide (cs.getD i 0 ≤ cs.getD j 0 + 2))
def evenB (cs : List Int) : Bool := allTo cs.length (evenAt cs)
/-- m is the greatest, or the least, of the first k -/
def IsMax (cs : List Int) (k : Nat) (m : Int) : Prop := (∀ i, i < k → cs.getD i 0 ≤ m) ∧ ∃ i, i < k ∧ cs.getD i 0 = m
def IsMin (cs : List Int) (k : Nat) (m : Int) : Prop := (∀ i, i < k → m ≤ cs.getD i 0) ∧ ∃ i, i < k ∧ cs.getD i 0 = m
theorem IsMax.next {cs : List Int} {k : Nat} {m : Int} (h : IsMax cs k m) : IsMax cs (k + 1) (if m < cs.getD k 0 then cs.getD k 0 else m) := by
  obtain ⟨h1, i, h2, h3⟩ := h
  by_cases hlt : m < cs.getD k 0
  · rw [if_pos hlt]
    exact ⟨fun j hj => by by_cases e : j = k; (subst e; exact Int.le_refl _); (have := h1 j (by omega); omega), k, by omega, rfl⟩
  · rw [if_neg hlt]
    exact ⟨fun j hj => by by_cases e : j = k; (subst e; omega); exact h1 j (by omega), i, by omega, h3⟩
theorem IsMin.next {cs : List Int} {k : Nat} {m : Int} (h : IsMin cs k m) : IsMin cs (k + 1) (if cs.getD k 0 < m then cs.getD k 0 else m) := by
  obtain ⟨h1, i, h2, h3⟩ := h
  by_cases hlt : cs.getD k 0 < m
  · rw [if_pos hlt]
    exact ⟨fun j hj => by by_cases e : j = k; (subst e; exact Int.le_refl _); (have := h1 j (by omega); omega), k, by omega, rfl⟩
  · rw [if_neg hlt]
    exact ⟨fun j hj => by by_cases e : j = k; (subst e; omega); exact h1 j (by omega), i, by omega, h3⟩
theorem even_max {cs : List Int} {a b : Int} (h : IsMax cs cs.length a) (h' : IsMin cs cs.length b) : evenB cs = decide (a - b ≤ 2) := by
  obtain ⟨h1, i, h2, h3⟩ := h
  obtain ⟨g1, j, g2, g3⟩ := h'
  rw [Bool.eq_iff_iff, decide_eq_true_eq]
  constructor
  · intro e
    have := (allTo_iff _ _).1 ((allTo_iff _ _).1 e i h2) j g2
    simp only [decide_eq_true_eq] at this
    omega
  · intro e
    refine (allTo_iff _ _).2 (fun k hk => (allTo_iff _ _).2 (fun l hl => ?_))
    have a1 := h1 k hk
    have a2 := g1 l hl
    simp only [decide_eq_true_eq]
    omega
theorem Max_any (v : Value) (cs : List Int) (w : World) (h : Sits w v cs) (h0 : 0 < cs.length) (hl : cs.length ≤ 1048576) :
    Calls Tryd.prog 39 #[v] w fun e w' => ∃ m, e = .returned (.int .i64 m) ∧ IsMax cs cs.length m ∧ w = w' := by
  obtain ⟨b, off, c, rfl, hc1, hm, hb, hc⟩ := h
  have hcf : w.cell? ⟨b, off, none⟩ = some (.int .i64 (cs.getD 0 0)) := by
    have h0' := hc 0 h0
    rw [Nat.add_zero, ← getD_at h0] at h0'
    exact h0'
  have HC := hid hc
  have e1 : ¬ (cs.length : Int) < 1 := by omega
  have e2 : (0 : Int) < (cs.length : Int) := by omega
  have HI : Hid (IsMax cs 1 (cs.getD 0 0)) := hid ⟨fun i hi => by obtain rfl : i = 0 := by omega
                                                                  exact Int.le_refl _, 0, by omega, rfl⟩
  clear hc
  go_enter Tryd.func39, Tryd.ntmps39
  go_wp2
  go_loop [3, 4] (fun m i => ∃ k : Nat, 1 ≤ k ∧ k ≤ cs.length ∧ i = .int .i64 k ∧ ∃ z, m = .int .i64 z ∧ IsMax cs k z) (fun _ i => cs.length - (intOf i).toNat)
  case atStart => exact ⟨1, Nat.le_refl _, by omega, rfl, _, rfl, by have := HI.out; first | exact this | (rw [getD_at h0] at this; exact this)⟩
  case round =>
    obtain ⟨k, hk0, hk, rfl, z, rfl, hz⟩ := hrel
    by_cases hlt : k < cs.length
    · have hcx := HC.out k hlt
      have HN := hid hz.next
      rw [← getD_at hlt] at hcx
      obtain ⟨x, hx⟩ : ∃ x, x = cs.getD k 0 := ⟨_, rfl⟩
      rw [← hx] at hcx HN
      clear hz hx
      by_cases hc2 : z < x
      · have HN2 : Hid (IsMax cs (k + 1) x) := by
          show IsMax cs (k + 1) x
          have := HN.out
          rwa [if_pos hc2] at this
        go_wp2
        go_round
        case rel => exact ⟨k + 1, by omega, by omega, by go_num, x, rfl, HN2.out⟩
        case measure => simp [intOf]; omega
      · have HN2 : Hid (IsMax cs (k + 1) z) := by
          show IsMax cs (k + 1) z
          have := HN.out
          rwa [if_neg hc2] at this
        go_wp2
        go_round
        case rel => exact ⟨k + 1, by omega, by omega, by go_num, z, rfl, HN2.out⟩
        case measure => simp [intOf]; omega
    · obtain rfl : k = cs.length := by omega
      have HZ := hid hz
      clear hz
      go_wp2
      go_ret
      exact ⟨_, rfl, HZ.out, rfl⟩
theorem Min_any (v : Value) (cs : List Int) (w : World) (h : Sits w v cs) (h0 : 0 < cs.length) (hl : cs.length ≤ 1048576) :
    Calls Tryd.prog 40 #[v] w fun e w' => ∃ m, e = .returned (.int .i64 m) ∧ IsMin cs cs.length m ∧ w = w' := by
  obtain ⟨b, off, c, rfl, hc1, hm, hb, hc⟩ := h
  have hcf : w.cell? ⟨b, off, none⟩ = some (.int .i64 (cs.getD 0 0)) := by
    have h0' := hc 0 h0
    rw [Nat.add_zero, ← getD_at h0] at h0'
    exact h0'
  have HC := hid hc
  have e1 : ¬ (cs.length : Int) < 1 := by omega
  have e2 : (0 : Int) < (cs.length : Int) := by omega
  have HI : Hid (IsMin cs 1 (cs.getD 0 0)) := hid ⟨fun i hi => by obtain rfl : i = 0 := by omega
                                                                  exact Int.le_refl _, 0, by omega, rfl⟩
  clear hc
  go_enter Tryd.func40, Tryd.ntmps40
  go_wp2
  go_loop [3, 4] (fun m i => ∃ k : Nat, 1 ≤ k ∧ k ≤ cs.length ∧ i = .int .i64 k ∧ ∃ z, m = .int .i64 z ∧ IsMin cs k z) (fun _ i => cs.length - (intOf i).toNat)
  case atStart => exact ⟨1, Nat.le_refl _, by omega, rfl, _, rfl, by have := HI.out; first | exact this | (rw [getD_at h0] at this; exact this)⟩
  case round =>
    obtain ⟨k, hk0, hk, rfl, z, rfl, hz⟩ := hrel
    by_cases hlt : k < cs.length
    · have hcx := HC.out k hlt
      have HN := hid hz.next
      rw [← getD_at hlt] at hcx
      obtain ⟨x, hx⟩ : ∃ x, x = cs.getD k 0 := ⟨_, rfl⟩
      rw [← hx] at hcx HN
      clear hz hx
      by_cases hc2 : x < z
      · have HN2 : Hid (IsMin cs (k + 1) x) := by
          show IsMin cs (k + 1) x
          have := HN.out
          rwa [if_pos hc2] at this
        go_wp2
        go_round
        case rel => exact ⟨k + 1, by omega, by omega, by go_num, x, rfl, HN2.out⟩
        case measure => simp [intOf]; omega
      · have HN2 : Hid (IsMin cs (k + 1) z) := by
          show IsMin cs (k + 1) z
          have := HN.out
          rwa [if_neg hc2] at this
        go_wp2
        go_round
        case rel => exact ⟨k + 1, by omega, by omega, by go_num, z, rfl, HN2.out⟩
        case measure => simp [intOf]; omega
    · obtain rfl : k = cs.length := by omega
      have HZ := hid hz
      clear hz
      go_wp2
      go_ret
      exact ⟨_, rfl, HZ.out, rfl⟩
end Go.Proofs.YteejdagnlepegaaDoor
