/- Contracts: raDigits and both DigitsAt functions. Conditions: the slice reads as a list of at most 2^20 numbers. -/
import Derived.Test.YtgfafnejgbblhabDig1
namespace Go.Proofs.Ytgfafnejgbblhab
open Go.RowKit
set_option linter.unusedVariables false

/-- the digits from index k on, zeros before -/
def digRow (xs : List Int) (r : Int) (k j : Nat) : Int := if k ≤ j then (digitsL xs r).getD j 0 else 0
theorem digRow_set {w : World} {g : Nat} {xs : List Int} {r : Int} {k : Nat} {d : Int} (hk : k < xs.length) (hd : d = (digitsL xs r).getD k 0) (h : w.rowIs g 3 xs.length (fun j => .int .i64 (digRow xs r (k + 1) j))) :
    (w.setCell ⟨g, k, none⟩ (.int .i64 d)).rowIs g 3 xs.length (fun j => .int .i64 (digRow xs r k j)) := by
  refine (h.set k (.int .i64 d)).congr (fun i hi => ?_)
  by_cases e : i = k
  · subst e
    rw [if_pos rfl, digRow, if_pos (Nat.le_refl _), hd]
  · rw [if_neg e]
    unfold digRow
    by_cases h1 : k + 1 ≤ i
    · rw [if_pos h1, if_pos (by omega)]
    · rw [if_neg h1, if_neg (by omega)]
theorem raDigits_any (v : Value) (xs : List Int) (r : Int) (w : World) (h : Sits w v xs) (hl : xs.length ≤ 12) (hall : allBases xs = true) (hr : 0 ≤ r) (hr2 : r ≤ 1000000) :
    Calls Try.prog 60 #[v, .int .i64 r] w fun e w' => ∃ u, e = .returned u ∧ Own w' w.heap.size u (digitsL xs r) ∧ Below w.heap.size w w' := by
  obtain ⟨b, off, c, rfl, hc1, hm, hb, hc⟩ := h
  have HALL := hid hall
  have hmk := run_make_ints xs.length (by omega) w
  have HM := hid (World.rowIs_made w (.int .i64 0) xs.length 3)
  have HB0 := hid ((Below.refl w.heap.size w).alloc (Nat.le_refl _) (.cells (madeCells #[.int .i64 0] xs.length) 3))
  have HC := hid hc
  clear hc hall
  go_enter Try.func60, Try.ntmps60
  go_wp2
  clear hmk
  go_loopw [1, 6] (fun q i wr => ∃ k : Nat, k ≤ xs.length ∧ i = .int .i64 ((k : Int) - 1) ∧ q = .int .i64 (remD xs r (xs.length - k)) ∧ wr.rowIs w.heap.size 3 xs.length (fun j => .int .i64 (digRow xs r k j)) ∧ Below w.heap.size w wr) (fun _ i _ => (intOf i + 1).toNat)
  case atStart => exact ⟨xs.length, Nat.le_refl _, rfl, by rw [Nat.sub_self]; rfl, World.rowIs.congr HM.out (fun i hi => by rw [digRow, if_neg (by omega)]), HB0.out⟩
  case round =>
    obtain ⟨k, hk, rfl, rfl, hrow, hbel⟩ := hrel
    obtain ⟨q1, q2⟩ := remD_range HALL.out hr (xs.length - k) (by omega)
    cases k with
    | zero =>
      rw [show (((0 : Nat) : Int) - 1) = -1 from rfl]
      have HR := hid hrow
      clear hrow
      go_wp2
      go_ret
      exact ⟨_, rfl, Own.of_rowIs (xs := digitsL xs r) (HR.out.congr (fun i hi => by rw [digRow, if_pos (Nat.zero_le _)])) (digitsL_length _ _) (by unfold maxLen; omega), hbel⟩
    | succ j =>
      rw [show (((j + 1 : Nat) : Int) - 1) = (j : Int) from by omega]
      have hj : j < xs.length := by omega
      have hcx : wr.cell? ⟨b, off + j, none⟩ = some (.int .i64 xs[j]) := (hbel.cell (by exact hb)).trans (HC.out j hj)
      obtain ⟨b1, b2⟩ := base_range HALL.out hj
      rw [getD_at hj] at b1 b2
      have hf := hrow.frozen j
      obtain ⟨z, hz⟩ : ∃ z, wr.cell? ⟨w.heap.size, j, none⟩ = some z := ⟨_, hrow.cell hj⟩
      obtain ⟨q, hq⟩ : ∃ q, q = remD xs r (xs.length - (j + 1)) := ⟨_, rfl⟩
      rw [← hq] at q1 q2 ⊢
      have HD : Hid (q % xs[j] = (digitsL xs r).getD j 0) := by
        show q % xs[j] = (digitsL xs r).getD j 0
        rw [digitsL_getD hj, getD_at hj, hq, show xs.length - (j + 1) = xs.length - 1 - j by omega]
      have HQ : Hid (remD xs r (xs.length - j) = q / xs[j]) := by
        show remD xs r (xs.length - j) = q / xs[j]
        rw [show xs.length - j = (xs.length - (j + 1)) + 1 by omega, remD, ← hq, show xs.length - 1 - (xs.length - (j + 1)) = j by omega, getD_at hj]
      have HS := hid (digRow_set hj HD.out hrow)
      have HB := hid (hbel.setCell (p := ⟨w.heap.size, j, none⟩) (Nat.le_refl _) (.int .i64 (q % xs[j])))
      clear hrow hbel hq
      have hne : (xs[j] == 0) = false := by simp; omega
      go_wp2
      go_roundw
      case rel => exact ⟨j, by omega, rfl, by rw [HQ.out], HS.out, HB.out⟩
      case measure => simp [intOf]; try omega
theorem spec_DigitsAt_any (v : Value) (xs : List Int) (r : Int) (w : World) (h : Sits w v xs) (hl : xs.length ≤ 1048576) (_hwf : ∀ n ∈ xs, (Lit.int .i64 n).wf = true) (_hr : (Lit.int .i64 r).wf = true) :
    Calls Try.prog 30 #[v, .int .i64 r] w fun e w' => ∃ u, e = .returned (.tuple #[u, .bool (digB xs r)]) ∧ Own w' w.heap.size u (digRes xs r) ∧ Below w.heap.size w w' := by
  have HS := hid h
  clear h
  by_cases h1 : basesB xs = true
  · obtain ⟨k1, k2, k3⟩ := basesB_iff.1 h1
    have k4 := prodTo_pos k2
    have HA := hid k2
    obtain ⟨p, hp⟩ : ∃ p, p = prodTo xs xs.length := ⟨_, rfl⟩
    have HP := hid hp
    rw [← hp] at k3 k4
    clear k2
    by_cases h2 : inB r 0 (p - 1) = true
    · obtain ⟨r1, r2⟩ := inB_iff.1 h2
      have HF : Hid (digB xs r = true) := by
        show digB xs r = true
        rw [digB, h1, ← hp, h2]; rfl
      have HX := hid (digRes_yes HF.out)
      clear hp
      go_enter Try.func30, Try.ntmps30
      go_wp2_with (first | (go_at_call 58; refine (raBases_any _ xs _ HS.out).mono ?_; rintro e w' ⟨rfl, rfl⟩) | (go_at_call 59; refine (raProduct_any _ xs _ HS.out HA.out).mono ?_; rintro e w' ⟨p', rfl, hpi, rfl⟩; obtain rfl : p' = p := (by rcases hpi with ⟨_, e⟩ | ⟨e, _⟩; exact e.trans HP.out.symm; exact absurd e (by rw [← HP.out]; omega))) | (go_at_call 48; refine (l1In_any _ _ _ _).mono ?_; rintro e w' ⟨rfl, rfl⟩) | (go_at_call 60; refine (raDigits_any _ xs r _ HS.out k1 HA.out r1 (by omega)).mono ?_; rintro e w' ⟨u, rfl, hou, hbu⟩))
      go_ret2
      exact ⟨_, ret_sb HF.out.symm, by rw [HX.out]; assumption, by assumption⟩
    · have h2 : inB r 0 (p - 1) = false := by simpa using h2
      have HF : Hid (digB xs r = false) := by
        show digB xs r = false
        rw [digB, h1, ← hp, h2]; rfl
      have HX := hid (digRes_no HF.out)
      clear hp
      go_enter Try.func30, Try.ntmps30
      go_wp2_with (first | (go_at_call 58; refine (raBases_any _ xs _ HS.out).mono ?_; rintro e w' ⟨rfl, rfl⟩) | (go_at_call 59; refine (raProduct_any _ xs _ HS.out HA.out).mono ?_; rintro e w' ⟨p', rfl, hpi, rfl⟩; obtain rfl : p' = p := (by rcases hpi with ⟨_, e⟩ | ⟨e, _⟩; exact e.trans HP.out.symm; exact absurd e (by rw [← HP.out]; omega))) | (go_at_call 48; refine (l1In_any _ _ _ _).mono ?_; rintro e w' ⟨rfl, rfl⟩))
      go_ret2
      exact ⟨_, ret_sb HF.out.symm, by rw [HX.out]; exact Own.nil _ _, Below.refl _ _⟩
  · have h1 : basesB xs = false := by simpa using h1
    have HF : Hid (digB xs r = false) := by
      show digB xs r = false
      rw [digB, h1]; rfl
    have HX := hid (digRes_no HF.out)
    go_enter Try.func30, Try.ntmps30
    go_wp2_with (first | (go_at_call 58; refine (raBases_any _ xs _ HS.out).mono ?_; rintro e w' ⟨rfl, rfl⟩))
    go_ret2
    exact ⟨_, ret_sb HF.out.symm, by rw [HX.out]; exact Own.nil _ _, Below.refl _ _⟩
end Go.Proofs.Ytgfafnejgbblhab
