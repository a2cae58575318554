/- Contracts: both ColexAt functions. Conditions: none. -/
import Derived.Test.YtijjdidljoicfaaCol1
import Derived.Test.YtijjdidljoicfaaCAt2
namespace Go.Proofs.Ytijjdidljoicfaa
open Go.RowKit
set_option linter.unusedVariables false

def backRow (k : Nat) (out : List Int) (j : Nat) : Int := if k ≤ j then out.getD (j - k) 0 else 0
theorem backRow_set {w : World} {g n j : Nat} {out : List Int} {x : Int} (h : w.rowIs g 3 n (fun i => .int .i64 (backRow (j + 1) out i))) :
    (w.setCell ⟨g, j, none⟩ (.int .i64 x)).rowIs g 3 n (fun i => .int .i64 (backRow j (x :: out) i)) := by
  refine (h.set j (.int .i64 x)).congr (fun i hi => ?_)
  unfold backRow
  by_cases e : i = j
  · subst e
    simp
  · rw [if_neg e]
    by_cases h1 : j + 1 ≤ i
    · rw [if_pos h1, if_pos (by omega), show i - j = (i - (j + 1)) + 1 by omega]
      simp
    · rw [if_neg h1, if_neg (by omega)]
def cxB (k r : Int) : Bool := inB k 0 12 && ofB (colL 12 k.toNat) r
def cxRes (k r : Int) : List Int := if cxB k r = true then (colL 12 k.toNat).getD r.toNat [] else []
theorem cxRes_yes {k r : Int} (h : cxB k r = true) : cxRes k r = (colL 12 k.toNat).getD r.toNat [] := by unfold cxRes; rw [if_pos h]
theorem cxRes_no {k r : Int} (h : cxB k r = false) : cxRes k r = [] := by unfold cxRes; rw [if_neg (by rw [h]; simp)]
theorem bound_ColexAt (k r : Int) : (cxRes k r).length ≤ 1048576 := by
  by_cases h : cxB k r = true
  · rw [cxRes_yes h]
    simp only [cxB, Bool.and_eq_true, ofB, inB_iff] at h
    have hlt : r.toNat < (colL 12 k.toNat).length := by omega
    have := (colL_elem 12 k.toNat ((colL 12 k.toNat)[r.toNat]) (List.getElem_mem _)).1
    rw [List.getD_eq_getElem?_getD, List.getElem?_eq_getElem hlt, Option.getD_some, this]
    omega
  · rw [cxRes_no (by simpa using h)]; simp
/-- how far the loop of ColexAt has come: m elements to find, all below x, the rank left, the elements found -/
def ColInv (all : List Int) (x r m : Nat) (tail : List Int) : Prop := r < (colL x m).length ∧ (colL x m).getD r [] ++ tail = all
theorem ColInv.pos {all tail : List Int} {x r m : Nat} (h : ColInv all x r (m + 1) tail) : 0 < x := by
  cases x with
  | zero => have := h.1; simp [colL] at this
  | succ x => omega
theorem ColInv.down {all tail : List Int} {x r m : Nat} (h : ColInv all (x + 1) r (m + 1) tail) (hr : r < binom x (m + 1)) : ColInv all x r (m + 1) tail := by
  obtain ⟨h1, h2⟩ := h
  rw [colL] at h2
  rw [← colL_len] at hr
  refine ⟨hr, ?_⟩
  rw [← h2, List.getD_eq_getElem?_getD, List.getD_eq_getElem?_getD, List.getElem?_append_left hr]
theorem ColInv.take {all tail : List Int} {x r m : Nat} (h : ColInv all (x + 1) r (m + 1) tail) (hr : ¬ r < binom x (m + 1)) : ColInv all x (r - binom x (m + 1)) m ((x : Int) :: tail) := by
  obtain ⟨h1, h2⟩ := h
  rw [colL] at h1 h2
  rw [List.length_append, List.length_map] at h1
  rw [← colL_len] at hr ⊢
  have hlt : r - (colL x (m + 1)).length < (colL x m).length := by omega
  refine ⟨hlt, ?_⟩
  rw [← h2, List.getD_eq_getElem?_getD, List.getD_eq_getElem?_getD, List.getElem?_append_right (by omega), List.getElem?_map, List.getElem?_eq_getElem hlt]
  simp
end Go.Proofs.Ytijjdidljoicfaa
