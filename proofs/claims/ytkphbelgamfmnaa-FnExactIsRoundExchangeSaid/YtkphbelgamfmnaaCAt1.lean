/- Contracts: l1Own at an owned slice, raOf, spec.CombinationAt. Conditions: the slices read as lists. -/
import Derived.Test.YtkphbelgamfmnaaAll1
namespace Go.Proofs.Ytkphbelgamfmnaa
open Go.RowKit
set_option linter.unusedVariables false

theorem ret_sb6 {u : Value} {b b' : Bool} (h : b = b') : Ending.returned (.tuple #[u, .bool b]) = .returned (.tuple #[u, .bool b']) := by rw [h]
theorem inB_nat3 {n : Int} (h : inB n 0 12 = true) : ∃ k : Nat, n = k ∧ k ≤ 12 := by
  have := inB_iff.1 h
  exact ⟨n.toNat, by omega, by omega⟩
theorem Own.lit0 (w : World) : Own (w.alloc (.cells #[] 3)) w.heap.size (.slice (some ⟨w.heap.size, 0, none⟩) 0 0) [] :=
  World.ownsRow_made w #[] 0 (Nat.le_refl _) (by unfold maxLen; omega) rfl
theorem append_src_below {w w3 : World} {o : Obj} {n c : Nat} (hg : (w.alloc o).grownBy w3 (Value.slice (some ⟨w.heap.size, 0, none⟩) n c).ownBlock) : Below w.heap.size w w3 :=
  ((Below.refl w.heap.size w).alloc (Nat.le_refl _) o).grown hg (size_alloc2 w o) own_low
def ofB (L : List (List Int)) (i : Int) : Bool := inB i 0 ((L.length : Int) - 1)
def ofRes (L : List (List Int)) (i : Int) : List Int := if ofB L i = true then L.getD i.toNat [] else []
theorem ofRes_yes {L : List (List Int)} {i : Int} (h : ofB L i = true) : ofRes L i = L.getD i.toNat [] := by unfold ofRes; rw [if_pos h]
theorem ofRes_no {L : List (List Int)} {i : Int} (h : ofB L i = false) : ofRes L i = [] := by unfold ofRes; rw [if_neg (by rw [h]; simp)]
/-- is there a combination of n with k elements and the rank r, and which -/
def catB (n k r : Int) : Bool := inB n 0 12 && inB k 0 12 && ofB (allL n.toNat k.toNat 0) r
def catRes (n k r : Int) : List Int := if catB n k r = true then (allL n.toNat k.toNat 0).getD r.toNat [] else []
theorem catRes_yes {n k r : Int} (h : catB n k r = true) : catRes n k r = (allL n.toNat k.toNat 0).getD r.toNat [] := by unfold catRes; rw [if_pos h]
theorem catRes_no {n k r : Int} (h : catB n k r = false) : catRes n k r = [] := by unfold catRes; rw [if_neg (by rw [h]; simp)]
theorem bound_CombinationAt (n k r : Int) : (catRes n k r).length ≤ 1048576 := by
  by_cases h : catB n k r = true
  · rw [catRes_yes h]
    simp only [catB, Bool.and_eq_true, ofB, inB_iff] at h
    have hlt : r.toNat < (allL n.toNat k.toNat 0).length := by omega
    have := allL_elem n.toNat k.toNat 0 ((allL n.toNat k.toNat 0)[r.toNat]) (List.getElem_mem _)
    rw [List.getD_eq_getElem?_getD, List.getElem?_eq_getElem hlt, Option.getD_some, this]
    omega
  · rw [catRes_no (by simpa using h)]; simp
end Go.Proofs.Ytkphbelgamfmnaa
