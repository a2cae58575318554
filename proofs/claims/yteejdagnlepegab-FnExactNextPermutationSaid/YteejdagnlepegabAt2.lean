/- Contracts: both PermutationAt functions. Conditions: none on the numbers. -/
import Derived.Test.YteejdagnlepegabAt1
namespace Go.Proofs.Yteejdagnlepegab
open Go.RowKit
set_option linter.unusedVariables false

theorem ret_sb3 {u : Value} {b b' : Bool} (h : b = b') : Ending.returned (.tuple #[u, .bool b]) = .returned (.tuple #[u, .bool b']) := by rw [h]
theorem inB_nat2 {n : Int} (h : inB n 0 12 = true) : ∃ k : Nat, n = k ∧ k < 13 := by
  have := inB_iff.1 h
  exact ⟨n.toNat, by omega, by omega⟩
/-- is there a permutation of n with the rank r, and which -/
def patB (n r : Int) : Bool := inB n 0 12 && inB r 0 ((fact n.toNat : Int) - 1)
def patRes (n r : Int) : List Int := if patB n r = true then atR n.toNat (upTo n.toNat) r.toNat else []
theorem patRes_yes {n r : Int} (h : patB n r = true) : patRes n r = atR n.toNat (upTo n.toNat) r.toNat := by unfold patRes; rw [if_pos h]
theorem patRes_no {n r : Int} (h : patB n r = false) : patRes n r = [] := by unfold patRes; rw [if_neg (by rw [h]; simp)]
theorem bound_PermutationAt (n r : Int) : (patRes n r).length ≤ 1048576 := by
  by_cases h : patB n r = true
  · rw [patRes_yes h, atR_length]
    simp only [patB, Bool.and_eq_true, inB_iff] at h
    omega
  · rw [patRes_no (by simpa using h)]; simp

theorem spec_PermutationAt_any (n r : Int) (w : World) (_wn : (Lit.int .i64 n).wf = true) (_wr : (Lit.int .i64 r).wf = true) :
    Calls Try.prog 42 #[.int .i64 n, .int .i64 r] w fun e w' => ∃ u, e = .returned (.tuple #[u, .bool (patB n r)]) ∧ Own w' w.heap.size u (patRes n r) ∧ Below w.heap.size w w' := by
  by_cases h1 : inB n 0 12 = true
  · obtain ⟨m, rfl, hm⟩ := inB_nat2 h1
    have hf := fact_pos m hm
    have hf2 := fact_le m hm
    by_cases h2 : inB r 0 ((fact m : Int) - 1) = true
    · have hrr := inB_iff.1 h2
      obtain ⟨r, rfl⟩ := Int.eq_ofNat_of_zero_le hrr.1
      have hr1 : r < fact m := by omega
      have HF : Hid (patB (m : Int) (r : Int) = true) := by
        show patB (m : Int) (r : Int) = true
        rw [patB, h1, Int.toNat_natCast, h2]; rfl
      have HX := hid (patRes_yes HF.out)
      have HR1 := hid hr1
      clear hrr hr1
      go_enter Try.func42, Try.ntmps42
      go_wp2_with (first | (go_at_call 33; refine (raItems_any _ _).mono ?_; rintro e w' ⟨rfl, rfl⟩) | (go_at_call 69; refine (raFactorial_any m _ hm).mono ?_; rintro e w' ⟨rfl, rfl⟩) | (go_at_call 50; refine (l1In_any _ _ _ _).mono ?_; rintro e w' ⟨rfl, rfl⟩) | (go_at_call 71; refine (raUpTo_any m _ (by omega)).mono ?_; rintro e w1 ⟨u, rfl, hou, hb1⟩; have HOU := hid hou; have HB1 := hid hb1; clear hou) | (go_at_call 70; refine (raAt_any m _ (upTo m) r _ _ HOU.out.reads (upTo_length m) (by omega) HR1.out rfl).mono ?_; rintro e w2 ⟨u2, rfl, hou2, hb2⟩; have HOU2 := hid hou2; have HB2 := hid (Below_chain HB1.out hb2); have HSZ := hid HB1.out.size; clear hou2) | fail)
      go_ret2
      exact ⟨_, ret_sb3 HF.out.symm, by rw [HX.out]; exact (by simpa using HOU2.out.mono HSZ.out), HB2.out⟩
    · have h2 : inB r 0 ((fact m : Int) - 1) = false := by simpa using h2
      have HF : Hid (patB (m : Int) r = false) := by
        show patB (m : Int) r = false
        rw [patB, h1, Int.toNat_natCast, h2]; rfl
      have HX := hid (patRes_no HF.out)
      go_enter Try.func42, Try.ntmps42
      go_wp2_with (first | (go_at_call 33; refine (raItems_any _ _).mono ?_; rintro e w' ⟨rfl, rfl⟩) | (go_at_call 69; refine (raFactorial_any m _ hm).mono ?_; rintro e w' ⟨rfl, rfl⟩) | (go_at_call 50; refine (l1In_any _ _ _ _).mono ?_; rintro e w' ⟨rfl, rfl⟩) | fail)
      go_ret2
      exact ⟨_, ret_sb3 HF.out.symm, by rw [HX.out]; exact Own.nil _ _, Below.refl _ _⟩
  · have h1 : inB n 0 12 = false := by simpa using h1
    have HF : Hid (patB n r = false) := by
      show patB n r = false
      rw [patB, h1]; rfl
    have HX := hid (patRes_no HF.out)
    go_enter Try.func42, Try.ntmps42
    go_wp2_with (first | (go_at_call 33; refine (raItems_any _ _).mono ?_; rintro e w' ⟨rfl, rfl⟩) | fail)
    go_ret2
    exact ⟨_, ret_sb3 HF.out.symm, by rw [HX.out]; exact Own.nil _ _, Below.refl _ _⟩

theorem grownBy_setCell (w : World) (p : Addr) (u : Value) : w.grownBy (w.setCell p u) (some p.block) :=
  ⟨rfl, rfl, rfl, by simp, fun k _ hne => Below.heap_setCell w p u k (fun e => hne (by rw [e]))⟩
/-- how far the loop of PermutationAt has come -/
def AtInv (n : Nat) (all : List Int) (k : Nat) (left : List Int) (r : Nat) (done : List Int) : Prop :=
  done.length = k ∧ left.length = n - k ∧ r < fact (n - k) ∧ done ++ atR (n - k) left r = all
theorem AtInv.step {n k r : Nat} {all left done : List Int} (h : AtInv n all k left r done) (hk : k < n) (hn : n ≤ 12) :
    r / fact (n - 1 - k) < left.length ∧ AtInv n all (k + 1) (left.eraseIdx (r / fact (n - 1 - k))) (r % fact (n - 1 - k)) (done ++ [left.getD (r / fact (n - 1 - k)) 0]) := by
  obtain ⟨h1, h2, h3, h4⟩ := h
  have e : n - k = (n - 1 - k) + 1 := by omega
  rw [e] at h3 h4
  obtain ⟨i1, i2⟩ := at_index h3 (by omega)
  rw [atR] at h4
  have e2 : n - (k + 1) = n - 1 - k := by omega
  refine ⟨by omega, by simp [h1], ?_, by rw [e2]; exact i2, by rw [e2, List.append_assoc]; exact h4⟩
  rw [List.length_eraseIdx_of_lt (by omega)]
  omega
def doneRow (done : List Int) (j : Nat) : Int := if j < done.length then done.getD j 0 else 0
theorem doneRow_set {w : World} {g n : Nat} {done : List Int} {x : Int} (h : w.rowIs g 3 n (fun j => .int .i64 (doneRow done j))) :
    (w.setCell ⟨g, done.length, none⟩ (.int .i64 x)).rowIs g 3 n (fun j => .int .i64 (doneRow (done ++ [x]) j)) := by
  refine (h.set done.length (.int .i64 x)).congr (fun i hi => ?_)
  unfold doneRow
  by_cases e : i = done.length
  · subst e
    simp
  · rw [if_neg e]
    by_cases h1 : i < done.length
    · rw [if_pos h1, if_pos (by simp; omega)]
      simp [List.getD_eq_getElem?_getD, List.getElem?_append_left h1]
    · rw [if_neg h1, if_neg (by simp; omega)]
theorem rowIs_grown {w w' : World} {g n : Nat} {f : Nat → Value} {row : Option Nat} (h : w.rowIs g 3 n f) (hg : w.grownBy w' row) (hne : some g ≠ row) : w'.rowIs g 3 n f :=
  h.of_block (hg.block g h.lt hne)

end Go.Proofs.Yteejdagnlepegab
