/- Contract: impl.CombinationAt. Conditions: none. -/
import Derived.Test.YtijjdidljoicfaaCAt1
namespace Go.Proofs.Ytijjdidljoicfaa
open Go.RowKit
set_option linter.unusedVariables false

theorem outTo_front (F : Nat → List (List Int)) (f m : Nat) : outTo F f (m + 1) = (F (f + 1)).map (fun l => (f : Int) :: l) ++ outTo F (f + 1) m := by
  induction m with
  | zero => simp [outTo]
  | succ m ih =>
    rw [outTo, ih, outTo, List.append_assoc]
    congr 2
    rw [show f + (m + 1) + 1 = f + 1 + m + 1 by omega, show f + (m + 1) = f + 1 + m by omega]
theorem allL_front {n k f : Nat} (h : f < n) : allL n (k + 1) f = (allL n k (f + 1)).map (fun l => (f : Int) :: l) ++ allL n (k + 1) (f + 1) := by
  rw [allL, allL, show n - f = (n - (f + 1)) + 1 by omega, outTo_front]
/-- how far the loop of CombinationAt has come: the elements done, the next candidate x, the rank left -/
def CatInv (n k : Nat) (all : List Int) (x r : Nat) (done : List Int) : Prop :=
  done.length ≤ k ∧ r < (allL n (k - done.length) x).length ∧ done ++ (allL n (k - done.length) x).getD r [] = all
theorem CatInv.bounds {n k x r : Nat} {all done : List Int} (h : CatInv n k all x r done) (hk : done.length < k) : x < n := by
  obtain ⟨h1, h2, h3⟩ := h
  obtain ⟨e, he⟩ : ∃ e, k - done.length = e + 1 := ⟨k - done.length - 1, by omega⟩
  rw [he, allL] at h2
  by_cases hx : x < n
  · exact hx
  · rw [show n - x = 0 by omega] at h2
    simp [outTo] at h2
theorem CatInv.take {n k x r : Nat} {all done : List Int} (hn : n ≤ 12) (hk12 : k ≤ 12) (h : CatInv n k all x r done) (hk : done.length < k) (hr : r < binom (n - 1 - x) (k - 1 - done.length)) :
    CatInv n k all (x + 1) r (done ++ [(x : Int)]) := by
  have hx := h.bounds hk
  obtain ⟨h1, h2, h3⟩ := h
  have he : k - done.length = (k - 1 - done.length) + 1 := by omega
  have hlen : (allL n (k - 1 - done.length) (x + 1)).length = binom (n - 1 - x) (k - 1 - done.length) := by
    rw [allL_len n hn _ _ (by omega), show n - (x + 1) = n - 1 - x by omega]
  rw [he, allL_front hx] at h3
  have hd : (done ++ [(x : Int)]).length = done.length + 1 := by simp
  refine ⟨by omega, by rw [hd, show k - (done.length + 1) = k - 1 - done.length by omega, hlen]; exact hr, ?_⟩
  rw [hd, show k - (done.length + 1) = k - 1 - done.length by omega, ← h3]
  have hlt : r < (allL n (k - 1 - done.length) (x + 1)).length := by rw [hlen]; exact hr
  simp [List.getD_eq_getElem?_getD, List.getElem?_append_left, hlt]
theorem CatInv.skip {n k x r : Nat} {all done : List Int} (hn : n ≤ 12) (hk12 : k ≤ 12) (h : CatInv n k all x r done) (hk : done.length < k) (hr : ¬ r < binom (n - 1 - x) (k - 1 - done.length)) :
    CatInv n k all (x + 1) (r - binom (n - 1 - x) (k - 1 - done.length)) done := by
  have hx := h.bounds hk
  obtain ⟨h1, h2, h3⟩ := h
  have he : k - done.length = (k - 1 - done.length) + 1 := by omega
  have hlen : (allL n (k - 1 - done.length) (x + 1)).length = binom (n - 1 - x) (k - 1 - done.length) := by
    rw [allL_len n hn _ _ (by omega), show n - (x + 1) = n - 1 - x by omega]
  rw [he, allL_front hx] at h2 h3
  rw [List.length_append, List.length_map, hlen] at h2
  refine ⟨h1, by rw [he]; omega, ?_⟩
  rw [he, ← h3, List.getD_eq_getElem?_getD, List.getD_eq_getElem?_getD, List.getElem?_append_right (by rw [List.length_map, hlen]; omega), List.length_map, hlen]

theorem Own.of_made {w : World} {base g c : Nat} (h : w.ownsRow base 3 1 (.slice (some ⟨g, 0, none⟩) 0 c) 0 []) : Own w base (.slice (some ⟨g, 0, none⟩) 0 c) [] := h
end Go.Proofs.Ytijjdidljoicfaa
