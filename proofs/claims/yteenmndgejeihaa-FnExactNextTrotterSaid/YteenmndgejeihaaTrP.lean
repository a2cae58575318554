/- Plain facts: Trotter's list by places. -/
import Derived.Test.YteenmndgejeihaaTrM
namespace Go.Proofs.Yteenmndgejeihaa
open Go.RowKit
set_option linter.unusedVariables false

/-- the places at which 0, 1, .. are put in -/
def plI : Nat → Nat → List Int
  | 0, _ => []
  | n + 1, r => plI n (r / (n + 1)) ++ [(trAt n r : Int)]
theorem plI_len : ∀ n r, (plI n r).length = n
  | 0, _ => rfl
  | n + 1, r => by rw [plI, List.length_append, plI_len n]; rfl
def insT (l : List Int) (p : Nat) (x : Int) : List Int := l.take p ++ (x :: l.drop p)
/-- what the first k of the places make -/
def blT (ps : List Int) : Nat → List Int
  | 0 => []
  | k + 1 => insT (blT ps k) (ps.getD k 0).toNat k
theorem insT_len {l : List Int} {p : Nat} {x : Int} (h : p ≤ l.length) : (insT l p x).length = l.length + 1 := by simp [insT]; omega
theorem blT_pre {ps qs : List Int} : ∀ k, k ≤ ps.length → blT (ps ++ qs) k = blT ps k
  | 0, _ => rfl
  | k + 1, h => by
    rw [blT, blT, blT_pre k (by omega)]
    congr 2
    simp only [List.getD_eq_getElem?_getD]
    rw [List.getElem?_append_left (by omega)]
theorem blT_tr : ∀ n r, blT (plI n r) n = trL n r
  | 0, _ => rfl
  | n + 1, r => by
    have hl := plI_len n (r / (n + 1))
    rw [plI, blT, blT_pre n (by omega), blT_tr n, trL]
    have e : ((plI n (r / (n + 1)) ++ [(trAt n r : Int)]).getD n 0) = (trAt n r : Int) := by
      rw [List.getD_eq_getElem?_getD, List.getElem?_append_right (by omega), hl, Nat.sub_self]
      rfl
    rw [e, Int.toNat_natCast]
    rfl
theorem plI_last (n r : Nat) : (plI (n + 1) r).getD n 0 = trAt n r := by
  have hl := plI_len n (r / (n + 1))
  rw [plI, List.getD_eq_getElem?_getD, List.getElem?_append_right (by omega), hl, Nat.sub_self]
  rfl
theorem plI_take (n r : Nat) : (plI (n + 1) r).take n = plI n (r / (n + 1)) := by
  have hl := plI_len n (r / (n + 1))
  rw [plI, List.take_append_of_le_length (by omega), List.take_of_length_le (by omega)]
theorem plI_range : ∀ n r k, k < n → 0 ≤ (plI n r).getD k 0 ∧ (plI n r).getD k 0 ≤ k
  | n + 1, r, k, h => by
    by_cases e : k = n
    · subst e
      rw [plI_last]
      have := trAt_le k r
      omega
    · have ih := plI_range n (r / (n + 1)) k (by omega)
      have hl := plI_len n (r / (n + 1))
      rw [plI, List.getD_eq_getElem?_getD, List.getElem?_append_left (by omega), ← List.getD_eq_getElem?_getD]
      exact ih
theorem blT_len {n r : Nat} : ∀ k, k ≤ n → (blT (plI n r) k).length = k
  | 0, _ => rfl
  | k + 1, h => by
    have ih := blT_len (n := n) (r := r) k (by omega)
    have := plI_range n r k (by omega)
    rw [blT, insT_len (by rw [ih]; omega), ih]
end Go.Proofs.Yteenmndgejeihaa
