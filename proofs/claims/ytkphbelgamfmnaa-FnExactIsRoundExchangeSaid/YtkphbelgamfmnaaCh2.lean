/- Contracts: spec.ExchangeOf, chLists, chNear and chAll. Conditions: the slices read as lists (of lists). -/
import Derived.Test.YtkphbelgamfmnaaCh1
import Derived.Test.YtkphbelgamfmnaaAll1
import Derived.Test.YtkphbelgamfmnaaSame
import Derived.Deep.RegionHeld3
namespace Go.Proofs.Ytkphbelgamfmnaa
open Go.RowKit
set_option linter.unusedVariables false

def absW (d : Int) : Int := if 0 ≤ d then d else -d
theorem l1MostW (a b : Int) (w : World) : Calls Try.prog 71 #[.int .i64 a, .int .i64 b] w fun e w' => e = .returned (.int .i64 (if b < a then a else b)) ∧ w = w' := by
  rcases Int.lt_trichotomy a b with h1 | h1 | h1
  · have h2 : ¬ b < a := by omega
    have h3 : ¬ b ≤ a := by omega
    have h4 : a ≤ b := by omega
    go_enter Try.func71, Try.ntmps71
    go_wp2
    go_ret
    exact ⟨rfl, rfl⟩
  · subst h1
    have h2 : ¬ a < a := by omega
    go_enter Try.func71, Try.ntmps71
    go_wp2
    go_ret
    exact ⟨ret_int (by first | rfl | simp), rfl⟩
  · have h2 : ¬ a < b := by omega
    have h3 : ¬ a ≤ b := by omega
    go_enter Try.func71, Try.ntmps71
    go_wp2
    go_ret
    exact ⟨rfl, rfl⟩
theorem l1AbsW_any (d : Int) (w : World) (h1 : -100000 ≤ d) (h2 : d ≤ 100000) : Calls Try.prog 54 #[.int .i64 d] w fun e w' => e = .returned (.int .i64 (absW d)) ∧ w = w' := by
  have hww : IntKind.i64.wrap (-d) = -d := IntWalk.i64_in _ (by omega)
  have hm : (if -d < d then d else -d) = absW d := by unfold absW; split <;> split <;> omega
  go_enter Try.func54, Try.ntmps54
  go_wp2_with (first | (go_at_call 71; refine (l1MostW _ _ _).mono ?_; rintro e w' ⟨rfl, rfl⟩; rw [hm]) | fail)
  go_ret
  exact ⟨rfl, rfl⟩
theorem combB_elem {n : Int} {xs : List Int} (h : combB n xs = true) : 0 ≤ n ∧ n ≤ 12 ∧ xs.length ≤ 12 ∧ ∀ x ∈ xs, 0 ≤ x ∧ x < n := by
  simp only [combB, Bool.and_eq_true, decide_eq_true_eq] at h
  obtain ⟨⟨h1, h2⟩, h3⟩ := h
  have h4 := inB_iff.1 h1
  refine ⟨h4.1, h4.2, by omega, fun x hx => ?_⟩
  obtain ⟨i, hi, rfl⟩ := List.mem_iff_getElem.1 hx
  have h5 := (allTo_iff _ _).1 h3 i hi
  rw [riseAt, Bool.and_eq_true, getD_at hi] at h5
  have h6 := inB_iff.1 h5.1
  omega
/-- what ExchangeOf is asked of -/
def xoOk (n : Int) (a b : List Int) : Bool := combB n a && (combB n b && decide (a.length = b.length))
def xoB (n : Int) (a b : List Int) : Bool := xoOk n a b && exB a b
def xoO (n : Int) (a b : List Int) : Int := if xoOk n a b = true then exO a b else 0
def xoI (n : Int) (a b : List Int) : Int := if xoOk n a b = true then exI a b else 0
theorem xo_no {n : Int} {a b : List Int} (h : xoOk n a b = false) : xoB n a b = false ∧ xoO n a b = 0 ∧ xoI n a b = 0 := by
  unfold xoB xoO xoI
  rw [h]
  exact ⟨rfl, by simp, by simp⟩
theorem xo_yes {n : Int} {a b : List Int} (h : xoOk n a b = true) : xoB n a b = exB a b ∧ xoO n a b = exO a b ∧ xoI n a b = exI a b := by
  unfold xoB xoO xoI
  rw [h]
  exact ⟨by simp, by simp, by simp⟩
theorem getDL2 {L : List (List Int)} {i : Nat} (h : i < L.length) : L.getD i [] = L[i] := by simp [List.getD_eq_getElem?_getD, h]
/-- are lists combinations of n, at most MaxList -/
def combAt (n : Int) (L : List (List Int)) (i : Nat) : Bool := combB n (L.getD i [])
def chlB (n : Int) (L : List (List Int)) : Bool := allTo L.length (combAt n L) && (inB n 0 12 && decide (L.length ≤ 1100))
set_option maxHeartbeats 1000000 in
theorem chLists_any (n : Int) (v : Value) (L : List (List Int)) (base : Nat) (w : World) (h : Lists w base v L) :
    Calls Try.prog 39 #[.int .i64 n, v] w fun e w' => e = .returned (.bool (chlB n L)) ∧ w = w' := by
  cases hin : inB n 0 12 with
  | true =>
    have HIN := hid hin
    rcases h.form with ⟨rfl, rfl⟩ | ⟨g, cap, rfl, _, hg, hc1, hm, hc⟩
    · have HV := hid (show chlB n [] = true by rw [chlB, hin]; rfl)
      clear hin
      go_enter Try.func39, Try.ntmps39
      go_wp2_with fail
      refine wp_loop_rounds 1 ?_
      rw [rounds_succ]
      go_wp2_with (first | (go_at_call 57; refine (raItems_any _ _).mono ?_; rintro e w' ⟨rfl, rfl⟩; rw [HIN.out]) | fail)
      go_ret
      exact ⟨ret_bool HV.out.symm, rfl⟩
    · have HC := hid hc
      have HCHL := hid (show ∀ q, allTo L.length (combAt n L) = q → chlB n L = (q && decide (L.length ≤ 1100)) from fun q hq => by rw [chlB, hq, hin, Bool.true_and])
      clear hc h hin
      go_enter Try.func39, Try.ntmps39
      go_wp2_with fail
      go_loop [6, 9] (fun _ i => ∃ k : Nat, k ≤ L.length ∧ i = .int .i64 k ∧ allTo k (combAt n L) = true) (fun _ i => L.length - (intOf i).toNat)
      case atStart => exact ⟨0, Nat.zero_le _, rfl, rfl⟩
      case round =>
        obtain ⟨k, hk, rfl, hall⟩ := hrel
        have HA := hid hall
        clear hall
        by_cases hlt : k < L.length
        · obtain ⟨z, hz, hown⟩ := HC.out k hlt
          have HZ := hid hown.reads
          obtain ⟨l, hl⟩ : ∃ l, l = L[k] := ⟨_, rfl⟩
          have HK := hid (show combAt n L k = combB n l by rw [combAt, getDL2 hlt, hl])
          rw [← hl] at HZ
          clear hown hl
          cases hcb : combB n l with
          | true =>
            have HCB := hid hcb
            clear hcb
            go_wp2_with (first | (go_at_call 58; refine (raCombination_any n _ l _ HZ.out).mono ?_; rintro e w1 ⟨rfl, rfl⟩; rw [HCB.out]) | fail)
            go_round
            case rel => exact ⟨k + 1, by omega, by go_num, allTo_next HA.out (by rw [HK.out]; exact HCB.out)⟩
            case measure => simp [intOf]; omega
          | false =>
            have HCB := hid hcb
            have HV := hid (show chlB n L = false by rw [HCHL.out false (allTo_no hlt (by rw [HK.out]; exact hcb))]; rfl)
            clear hcb
            go_wp2_with (first | (go_at_call 58; refine (raCombination_any n _ l _ HZ.out).mono ?_; rintro e w1 ⟨rfl, rfl⟩; rw [HCB.out]) | fail)
            go_ret
            exact ⟨ret_bool HV.out.symm, rfl⟩
        · obtain rfl : k = L.length := by omega
          have HV := hid (show chlB n L = decide (L.length ≤ 1100) by rw [HCHL.out true HA.out]; rfl)
          by_cases h11 : L.length ≤ 1100
          · have HV2 := hid (show chlB n L = true by rw [HV.out, decide_eq_true h11])
            go_wp2_with (first | (go_at_call 57; refine (raItems_any _ _).mono ?_; rintro e w' ⟨rfl, rfl⟩; rw [HIN.out]) | fail)
            go_ret
            exact ⟨ret_bool (by rw [HV2.out]; first | rfl | exact decide_eq_true (by omega)), rfl⟩
          · have HV2 := hid (show chlB n L = false by rw [HV.out, decide_eq_false h11])
            go_wp2_with (first | (go_at_call 57; refine (raItems_any _ _).mono ?_; rintro e w' ⟨rfl, rfl⟩; rw [HIN.out]) | fail)
            go_ret
            exact ⟨ret_bool (by rw [HV2.out]; first | rfl | exact decide_eq_false (by omega)), rfl⟩
  | false =>
    have HIN := hid hin
    have HV := hid (show chlB n L = false by rw [chlB, hin]; simp)
    have HNC := hid (show ∀ l, combB n l = false from fun l => by rw [combB, hin]; rfl)
    rcases h.form with ⟨rfl, rfl⟩ | ⟨g, cap, rfl, _, hg, hc1, hm, hc⟩
    · clear hin h
      go_enter Try.func39, Try.ntmps39
      go_wp2_with fail
      refine wp_loop_rounds 1 ?_
      rw [rounds_succ]
      go_wp2_with (first | (go_at_call 57; refine (raItems_any _ _).mono ?_; rintro e w' ⟨rfl, rfl⟩; rw [HIN.out]) | fail)
      go_ret
      exact ⟨ret_bool HV.out.symm, rfl⟩
    · have HC := hid hc
      clear hc h hin
      cases L with
      | nil =>
        go_enter Try.func39, Try.ntmps39
        go_wp2_with fail
        refine wp_loop_rounds 1 ?_
        rw [rounds_succ]
        go_wp2_with (first | (go_at_call 57; refine (raItems_any _ _).mono ?_; rintro e w' ⟨rfl, rfl⟩; rw [HIN.out]) | fail)
        go_ret
        exact ⟨ret_bool HV.out.symm, rfl⟩
      | cons l t =>
        obtain ⟨z, hz, hown⟩ := HC.out 0 (by simp)
        have HZ := hid (show Reads w z l from hown.reads)
        have hpos : (0 : Int) < ((l :: t).length : Int) := by rw [List.length_cons]; omega
        obtain ⟨m, hm2⟩ : ∃ m, m = (l :: t).length := ⟨_, rfl⟩
        rw [← hm2] at hpos hc1 ⊢
        have hm3 : 0 < m := by omega
        clear hown hm2
        go_enter Try.func39, Try.ntmps39
        go_wp2_with fail
        refine wp_loop_rounds 1 ?_
        rw [rounds_succ]
        go_wp2_with (first | (go_at_call 58; refine (raCombination_any n _ l _ HZ.out).mono ?_; rintro e w1 ⟨rfl, rfl⟩; rw [HNC.out l]) | fail)
        go_ret
        exact ⟨ret_bool HV.out.symm, rfl⟩
end Go.Proofs.Ytkphbelgamfmnaa
