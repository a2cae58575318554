/- Contracts: both AllPermutations functions. Conditions: none. -/
import Derived.Test.YteejdagnlepegabOrd2
import Derived.Deep.RegionHeld3
namespace Go.Proofs.Yteejdagnlepegab
open Go.RowKit
set_option linter.unusedVariables false

def apB (n : Int) : Bool := inB n 0 6
def apRes (n : Int) : List (List Int) := if apB n = true then ordersL n.toNat else []
theorem apRes_yes {N : Nat} (h : apB (N : Int) = true) : apRes (N : Int) = ordersL N := by unfold apRes; rw [if_pos h]; rfl
theorem apRes_no {n : Int} (h : apB n = false) : apRes n = [] := by unfold apRes; rw [if_neg (by rw [h]; simp)]
theorem spec_AllPermutations_any (n : Int) (w : World) (_wn : (Lit.int .i64 n).wf = true) :
    Calls Try.prog 21 #[.int .i64 n] w fun e w' => ∃ u, e = .returned (.tuple #[u, .bool (apB n)]) ∧ Lists w' w.heap.size u (apRes n) ∧ Below w.heap.size w w' := by
  by_cases h1 : inB n 0 6 = true
  · have HF : Hid (apB n = true) := h1
    obtain ⟨N, rfl⟩ : ∃ N : Nat, n = N := ⟨n.toNat, by have := inB_iff.1 h1; omega⟩
    have hN : N < 7 := by have := inB_iff.1 h1; omega
    have HX := hid (apRes_yes HF.out)
    go_enter Try.func21, Try.ntmps21
    go_wp2_with (first | (go_at_call 50; refine (l1In_any _ _ _ _).mono ?_; rintro e w' ⟨rfl, rfl⟩) | (go_at_call 51; refine (raOrders_any N hN _).mono ?_; rintro e w' ⟨u, rfl, ho, hb⟩; have HO := hid ho; have HB := hid hb; clear ho hb) | fail)
    go_ret2
    exact ⟨_, ret_pb HF.out.symm, by rw [HX.out]; exact HO.out, HB.out⟩
  · have h1 : inB n 0 6 = false := by simpa using h1
    have HF : Hid (apB n = false) := h1
    have HX := hid (apRes_no HF.out)
    go_enter Try.func21, Try.ntmps21
    go_wp2_with (first | (go_at_call 50; refine (l1In_any _ _ _ _).mono ?_; rintro e w' ⟨rfl, rfl⟩) | fail)
    go_ret2
    exact ⟨_, ret_pb HF.out.symm, by rw [HX.out]; exact Lists.nil _ _, Below.refl _ _⟩
theorem impl_AllPermutations_any (n : Int) (w : World) (_wn : (Lit.int .i64 n).wf = true) :
    Calls Try.prog 22 #[.int .i64 n] w fun e w' => ∃ u, e = .returned (.tuple #[u, .bool (apB n)]) ∧ ListsA w' w.heap.size u (apRes n) ∧ Below w.heap.size w w' := by
  by_cases h0 : 0 ≤ n
  · by_cases h1 : n ≤ 6
    · have HF : Hid (apB n = true) := inB_iff.2 ⟨h0, h1⟩
      obtain ⟨N, rfl⟩ : ∃ N : Nat, n = N := ⟨n.toNat, by omega⟩
      have hN : N < 7 := by omega
      have hN13 : N < 13 := by omega
      have hN20 : N ≤ 1048576 := by omega
      have HX := hid (apRes_yes HF.out)
      have q1 : ¬ (N : Int) < 0 := by omega
      have q2 : ¬ (6 : Int) < (N : Int) := by omega
      go_enter Try.func22, Try.ntmps22
      go_wp2_with (first
        | (go_at_call 39; refine (firstNumbers_any N _ hN20).mono ?_; rintro e w1 ⟨rfl, hou, hb1⟩; have HOU := hid hou; have HB1 := hid hb1; clear hou hb1)
        | (go_at_call 52; refine (factorial_any N _ hN13).mono ?_; rintro e w' ⟨rfl, rfl⟩)
        | (go_at_call 38; refine (listFrom_perm N hN _ _ _ w.heap.size _ HB1.out.size HOU.out).mono ?_; rintro e w2 ⟨u, rfl, ho, hb⟩; have HO := hid ho; have HB2 := hid (HB1.out.trans hb); clear ho hb)
        | fail)
      go_ret2
      exact ⟨_, ret_pb HF.out.symm, by rw [HX.out]; exact HO.out, HB2.out⟩
    · have HF : Hid (apB n = false) := by
        show inB n 0 6 = false
        cases hb : inB n 0 6 with
        | false => rfl
        | true => exact absurd (inB_iff.1 hb).2 h1
      have HX := hid (apRes_no HF.out)
      go_enter Try.func22, Try.ntmps22
      go_wp2_with fail
      go_ret2
      exact ⟨_, ret_pb HF.out.symm, by rw [HX.out]; exact Lists.nilA _ _, Below.refl _ _⟩
  · have HF : Hid (apB n = false) := by
      show inB n 0 6 = false
      cases hb : inB n 0 6 with
      | false => rfl
      | true => exact absurd (inB_iff.1 hb).1 h0
    have HX := hid (apRes_no HF.out)
    go_enter Try.func22, Try.ntmps22
    go_wp2_with fail
    go_ret2
    exact ⟨_, ret_pb HF.out.symm, by rw [HX.out]; exact Lists.nilA _ _, Below.refl _ _⟩
end Go.Proofs.Yteejdagnlepegab
