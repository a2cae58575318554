/- Contracts: placesOfZeros, brZeros. Conditions: slices that are not nil and read as lists of at most 2^20 numbers. -/
import Derived.Test.YtaajfpjekfmddabBzM
import Derived.Test.YtaajfpjekfmddabBn1
namespace Go.Proofs.Ytaajfpjekfmddab
open Go.RowKit
set_option linter.unusedVariables false
set_option maxRecDepth 4000

theorem own_zeros (w : World) (n : Nat) (hn : n ≤ 1048576) : Own (w.alloc (.cells (madeCells #[.int .i64 0] n) 3)) w.heap.size (.slice (some ⟨w.heap.size, 0, none⟩) n n) (zerL n) :=
  Own.of_rowIs ((World.rowIs_made w (.int .i64 0) n 3).congr (fun i hi => by rw [zerL_at])) (zerL_len n) (by unfold maxLen; omega)
theorem placesOfZeros_any (v : Value) (xs : List Int) (n : Nat) (w : World) (h : Sits w v xs) (h1 : 1 ≤ xs.length) (hl : xs.length ≤ 2048) (hn : n ≤ 2048) :
    Calls Try.prog 60 #[v, .int .i64 (n : Int)] w fun e w' => ∃ r, e = .returned r ∧ OwnE w' w.heap.size r (nearL xs (zerL n) 0) ∧ Below w.heap.size w w' := by
  have HS := hid h
  have hmk := run_make_ints n (by omega) w
  have HB0 := hid ((Below.refl w.heap.size w).alloc (Nat.le_refl _) (.cells (madeCells #[.int .i64 0] n) 3))
  have HO := hid (own_zeros w n (by omega))
  have HX := hid (h.below HB0.out)
  have HZL := hid (show (zerL n).length ≤ 2048 by rw [zerL_len]; exact hn)
  go_enter Try.func60, Try.ntmps60
  go_wp2_with (first
    | (go_at_call 77; (refine (placesNear_any _ _ xs (zerL n) 0 _ HX.out HO.out.sits h1 hl HZL.out (by omega)).mono ?_); (rintro e w2 ⟨r, rfl, ho, hb⟩); (have HO2 := hid (ho.mono HB0.out.size)); (have HB := hid (Below_chain HB0.out hb)); (clear ho hb))
    | fail)
  go_ret
  exact ⟨_, rfl, HO2.out, HB.out⟩
theorem brZeros_any (v : Value) (xs : List Int) (n p : Nat) (w : World) (h : Sits w v xs) (hn : n ≤ 2048) (hl : xs.length ≤ 2048) (hp : p < xs.length)
    (hu : ∀ q, q < xs.length → q ≤ p → (stB xs (zerL n) q = true ∧ xs.getD ((q + xs.length - 1) % xs.length) 0 ≠ 0 ↔ q = p)) :
    Calls Try.prog 57 #[v, .int .i64 (n : Int)] w fun e w' => e = .returned (.int .i64 (p : Int)) ∧ Below w.heap.size w w' := by
  have HS := hid h
  obtain ⟨b, off, c, rfl, hc1, hm, hb, hc⟩ := h
  have HC := hid hc
  have HU := hid hu
  clear hc hu
  have HZL := hid (zerL_len n)
  go_enter Try.func57, Try.ntmps57
  go_wp2_with fail
  go_loopw [5, 8] (fun _ i wr => ∃ j : Nat, i = .int .i64 (j : Int) ∧ j ≤ p ∧ Below w.heap.size w wr) (fun _ i _ => xs.length - (intOf i).toNat)
  case atStart => exact ⟨0, rfl, Nat.zero_le _, Below.refl _ _⟩
  case round =>
    obtain ⟨j, rfl, hj, hbel⟩ := hrel
    have HB := hid hbel
    have hlt : j < xs.length := by omega
    have hmk := run_make_ints n (by omega) wr
    have HB0 := hid (hbel.alloc hbel.size (.cells (madeCells #[.int .i64 0] n) 3))
    have HO := hid (own_zeros wr n (by omega))
    have HX := hid (HS.out.below HB0.out)
    obtain ⟨q, hq⟩ : ∃ q, q = (j + xs.length - 1) % xs.length := ⟨_, rfl⟩
    have hq1 : q < xs.length := by rw [hq]; exact Nat.mod_lt _ (by omega)
    have HJ := hid (HU.out j hlt hj)
    rw [← hq, getD_at hq1] at HJ
    have hcx : (wr.alloc (.cells (madeCells #[.int .i64 0] n) 3)).cell? ⟨b, off + q, none⟩ = some (.int .i64 xs[q]) := (HB0.out.cell (by exact hb)).trans (HC.out q hq1)
    have u0 : (j : Int) + (xs.length : Int) - 1 = ((j + xs.length - 1 : Nat) : Int) := by omega
    have u1 : ((j : Int) + (xs.length : Int) - 1) % (xs.length : Int) = (q : Int) := by rw [u0, hq]; simp
    have u2 : ((j : Int) + (xs.length : Int) - 1).tmod (xs.length : Int) = (q : Int) := by rw [Int.tmod_eq_emod_of_nonneg (by omega)]; exact u1
    have u3 : ((xs.length : Int) == 0) = false := beq_eq_false_iff_ne.2 (by omega)
    have u6 : IntKind.i64.wrap (q : Int) = (q : Int) := IntWalk.i64_in _ (by omega)
    obtain ⟨x, hx⟩ : ∃ x, x = xs[q] := ⟨_, rfl⟩
    rw [← hx] at hcx HJ
    clear hq u0 hx hbel
    cases hst : stB xs (zerL n) j with
    | false =>
      have hjp : j < p := by
        have : ¬ j = p := fun e => by have := (HJ.out.2 e).1; rw [hst] at this; cases this
        omega
      have HST := hid hst
      clear hst
      go_wp2_with (first
        | (go_at_call 84; (refine (brStands_any _ _ xs (zerL n) j _ HX.out HO.out.sits hlt (by omega) (by rw [HZL.out]; omega)).mono ?_); (rintro e w2 ⟨rfl, rfl⟩); (rw [HST.out]))
        | fail)
      go_roundw
      case rel => exact ⟨j + 1, by go_num, by omega, HB0.out⟩
      case measure => simp [intOf]; omega
    | true =>
      have HST := hid hst
      by_cases hx0 : x = 0
      · have hjp : j < p := by
          have : ¬ j = p := fun e => (HJ.out.2 e).2 hx0
          omega
        have hxb : (x != 0) = false := by rw [hx0]; rfl
        clear hst hx0
        go_wp2_with (first
          | (go_at_call 84; (refine (brStands_any _ _ xs (zerL n) j _ HX.out HO.out.sits hlt (by omega) (by rw [HZL.out]; omega)).mono ?_); (rintro e w2 ⟨rfl, rfl⟩); (rw [HST.out]))
          | fail)
        go_roundw
        case rel => exact ⟨j + 1, by go_num, by omega, HB0.out⟩
        case measure => simp [intOf]; omega
      · have HJP := hid (HJ.out.1 ⟨hst, hx0⟩)
        have hxb : (x != 0) = true := by simp [hx0]
        clear hst
        go_wp2_with (first
          | (go_at_call 84; (refine (brStands_any _ _ xs (zerL n) j _ HX.out HO.out.sits hlt (by omega) (by rw [HZL.out]; omega)).mono ?_); (rintro e w2 ⟨rfl, rfl⟩); (rw [HST.out]))
          | fail)
        go_ret
        exact ⟨ret_int (by rw [HJP.out]), HB0.out⟩
end Go.Proofs.Ytaajfpjekfmddab
