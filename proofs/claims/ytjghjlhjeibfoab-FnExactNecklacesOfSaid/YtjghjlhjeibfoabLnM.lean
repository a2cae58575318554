/- Plain facts on the next Lyndon word: the word repeated, its greatest letters at the end cut, the last one left one more. No conditions beyond the stated ones. -/
import Derived.Test.YtjghjlhjeibfoabLyM
namespace Go.Proofs.Ytjghjlhjeibfoab
set_option linter.unusedVariables false

/-- how many letters are left behind cutting those equal to m from the end of the first j -/
def cutN (m : Int) (o : List Int) : Nat → Nat
  | 0 => 0
  | j + 1 => if o.getD j 0 = m then cutN m o j else j + 1
def nxOf (m : Int) (o : List Int) : List Int := if cutN m o o.length = 0 then [] else o.take (cutN m o o.length - 1) ++ [o.getD (cutN m o o.length - 1) 0 + 1]
def nxL (xs : List Int) (n k : Nat) : List Int := nxOf ((k : Int) - 1) (arL xs 0 n)
theorem cutN_le (m : Int) (o : List Int) : ∀ j, cutN m o j ≤ j
  | 0 => Nat.le_refl _
  | j + 1 => by
    rw [cutN]
    have := cutN_le m o j
    split <;> omega
theorem nxOf_zero {m : Int} {o : List Int} (h : cutN m o o.length = 0) : nxOf m o = [] := by unfold nxOf; rw [if_pos h]
theorem nxOf_succ {m : Int} {o : List Int} {j : Nat} (h : cutN m o o.length = j + 1) : nxOf m o = o.take j ++ [o.getD j 0 + 1] := by
  unfold nxOf; rw [h, if_neg (by omega), Nat.add_sub_cancel]
theorem nxOf_len (m : Int) (o : List Int) : (nxOf m o).length = cutN m o o.length := by
  have h := cutN_le m o o.length
  cases e : cutN m o o.length with
  | zero => rw [nxOf_zero e]; rfl
  | succ j => rw [nxOf_succ e]; simp; omega
theorem nxL_len (xs : List Int) (n k : Nat) : (nxL xs n k).length ≤ n := by
  unfold nxL
  rw [nxOf_len]
  have := cutN_le ((k : Int) - 1) (arL xs 0 n) (arL xs 0 n).length
  rw [arL_len] at this ⊢
  exact this
/-- letters less than k -/
def belL (k : Nat) (xs : List Int) : Prop := ∀ i, i < xs.length → 0 ≤ xs.getD i 0 ∧ xs.getD i 0 ≤ (k : Int) - 1
theorem belL_ar {xs : List Int} {k : Nat} (h : belL k xs) (h1 : 1 ≤ xs.length) (s n : Nat) : belL k (arL xs s n) := by
  intro i hi
  rw [arL_len] at hi
  rw [arL_at hi]
  exact h _ (Nat.mod_lt _ (by omega))
theorem cutN_ne {m : Int} {o : List Int} : ∀ n j, cutN m o n = j + 1 → o.getD j 0 ≠ m
  | 0, j, h => by simp [cutN] at h
  | n + 1, j, h => by
    rw [cutN] at h
    split at h
    · exact cutN_ne n j h
    · rename_i h2
      have : n = j := by omega
      rw [← this]; exact h2
theorem belL_nx {xs : List Int} {k : Nat} (h : belL k xs) (h1 : 1 ≤ xs.length) (n : Nat) : belL k (nxL xs n k) := by
  have hb := belL_ar h h1 0 n
  intro i hi
  have hl := nxOf_len ((k : Int) - 1) (arL xs 0 n)
  have hc := cutN_le ((k : Int) - 1) (arL xs 0 n) (arL xs 0 n).length
  unfold nxL at hi ⊢
  rw [hl] at hi
  cases e : cutN ((k : Int) - 1) (arL xs 0 n) (arL xs 0 n).length with
  | zero => omega
  | succ j =>
    rw [nxOf_succ e]
    rw [e] at hi hc
    by_cases h2 : i < j
    · rw [List.getD_eq_getElem?_getD, List.getElem?_append_left (by simp; omega), List.getElem?_take_of_lt h2, ← List.getD_eq_getElem?_getD]
      exact hb i (by omega)
    · have hij : i = j := by omega
      subst hij
      rw [List.getD_eq_getElem?_getD, List.getElem?_append_right (by simp; omega)]
      have h3 := hb i (by omega)
      have h4 := cutN_ne _ _ e
      have h5 : i - ((arL xs 0 n).take i).length = 0 := by simp; omega
      rw [h5]
      show 0 ≤ (arL xs 0 n).getD i 0 + 1 ∧ (arL xs 0 n).getD i 0 + 1 ≤ (k : Int) - 1
      omega
theorem nx_last {m : Int} {o : List Int} (h : ∀ i, i < o.length → o.getD i 0 ≤ m) : ∀ j, j ≤ o.length → lastIx (fun i => decide (o.getD i 0 < m)) j = (cutN m o j : Int) - 1
  | 0, _ => rfl
  | j + 1, hj => by
    have h1 := h j (by omega)
    rw [lastIx, cutN]
    by_cases e : o.getD j 0 = m
    · rw [if_pos e, if_neg (by rw [decide_eq_true_eq]; omega)]
      exact nx_last h j (by omega)
    · rw [if_neg e, if_pos (by rw [decide_eq_true_eq]; omega)]
      omega
end Go.Proofs.Ytjghjlhjeibfoab
