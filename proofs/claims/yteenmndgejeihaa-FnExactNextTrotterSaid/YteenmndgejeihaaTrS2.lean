/- Contract: spec.TrotterAt. Conditions: none. -/
import Derived.Test.YteenmndgejeihaaTrS
namespace Go.Proofs.Yteenmndgejeihaa
open Go.RowKit
set_option linter.unusedVariables false
set_option maxRecDepth 4000
def taB (n r : Int) : Bool := inB n 0 12 && inB r 0 ((fact n.toNat : Int) - 1)
def taRes (n r : Int) : List Int := if taB n r = true then trL n.toNat r.toNat else []
theorem taRes_yes {n r : Int} (h : taB n r = true) : taRes n r = trL n.toNat r.toNat := by unfold taRes; rw [if_pos h]
theorem taRes_no {n r : Int} (h : taB n r = false) : taRes n r = [] := by unfold taRes; rw [if_neg (by rw [h]; simp)]
theorem bound_TrotterAt (n r : Int) : (taRes n r).length ≤ 1048576 := by
  cases h : taB n r with
  | false => rw [taRes_no h]; simp
  | true =>
    rw [taRes_yes h, trL_len]
    rw [taB, Bool.and_eq_true, inB_iff] at h
    omega
theorem spec_TrotterAt_any (n r : Int) (w : World) :
    Calls Try.prog 18 #[.int .i64 n, .int .i64 r] w fun e w' => ∃ u, e = .returned (.tuple #[u, .bool (taB n r)]) ∧ Own w' w.heap.size u (taRes n r) ∧ Below w.heap.size w w' := by
  cases hn : inB n 0 12 with
  | false =>
    have HN := hid hn
    have HB := hid (show false = taB n r by rw [taB, hn]; rfl)
    clear hn
    go_enter Try.func18, Try.ntmps18
    go_wp2_with (first | (go_at_call 62; refine (raItems_any _ _).mono ?_; rintro e w' ⟨rfl, rfl⟩; rw [HN.out]) | fail)
    go_ret2
    exact ⟨_, ret_sbA HB.out, by rw [taRes_no HB.out.symm]; exact Own.nil _ _, Below.refl _ _⟩
  | true =>
    have HN := hid hn
    have hn2 := inB_iff.1 hn
    obtain ⟨N, rfl⟩ : ∃ N : Nat, n = (N : Int) := ⟨n.toNat, by omega⟩
    have hf := fact_le N (by omega)
    have hf0 := rk_pos N
    have hw : IntKind.i64.wrap ((fact N : Int) - 1) = (fact N : Int) - 1 := IntWalk.i64_in _ (by omega)
    cases hr : inB r 0 ((fact N : Int) - 1) with
    | false =>
      have HR := hid hr
      have HB := hid (show false = taB N r by rw [taB, hn, Int.toNat_natCast, hr]; rfl)
      clear hn hr
      go_enter Try.func18, Try.ntmps18
      go_wp2_with (first | (go_at_call 62; refine (raItems_any _ _).mono ?_; rintro e w' ⟨rfl, rfl⟩; rw [HN.out]) | (go_at_call 64; refine (raFactorial_any N _ (by omega)).mono ?_; rintro e w1 ⟨rfl, rfl⟩) | (go_at_call 63; refine (l1In_any _ _ _ _).mono ?_; rintro e w' ⟨rfl, rfl⟩; rw [HR.out]) | fail)
      go_ret2
      exact ⟨_, ret_sbA HB.out, by rw [taRes_no HB.out.symm]; exact Own.nil _ _, Below.refl _ _⟩
    | true =>
      have HR := hid hr
      have hr2 := inB_iff.1 hr
      obtain ⟨R, rfl⟩ : ∃ R : Nat, r = (R : Int) := ⟨r.toNat, by omega⟩
      have HB := hid (show true = taB N R by rw [taB, hn, Int.toNat_natCast, hr]; rfl)
      have HX := hid (show taRes N R = trL N R by rw [taRes_yes HB.out.symm, Int.toNat_natCast, Int.toNat_natCast])
      have hRb : R ≤ 1000000000 := by omega
      have hNb : N ≤ 12 := by omega
      clear hn hr
      go_enter Try.func18, Try.ntmps18
      go_wp2_with (first | (go_at_call 62; refine (raItems_any _ _).mono ?_; rintro e w' ⟨rfl, rfl⟩; rw [HN.out]) | (go_at_call 64; refine (raFactorial_any N _ (by omega)).mono ?_; rintro e w1 ⟨rfl, rfl⟩) | (go_at_call 63; refine (l1In_any _ _ _ _).mono ?_; rintro e w' ⟨rfl, rfl⟩; rw [HR.out]) | (go_at_call 65; refine (moTrotter_any N R _ hNb hRb).mono ?_; rintro e w2 ⟨u, rfl, ho, hb⟩; have HO := hid ho; have HB2 := hid hb; clear ho hb) | fail)
      go_ret2
      exact ⟨_, ret_sbA HB.out, by rw [HX.out]; exact HO.out, HB2.out⟩
end Go.Proofs.Yteenmndgejeihaa
