/- Plain facts on the list of Lyndon words: from each one to the next, how many they are (by reckoning in the kernel, with a quicker way to the next one). No conditions beyond the stated ones. -/
import Derived.Test.YtjghjlhjeibfoabLnM
import Derived.Test.YtjghjlhjeibfoabLcM
namespace Go.Proofs.Ytjghjlhjeibfoab
set_option linter.unusedVariables false
set_option maxRecDepth 100000

/-- a quicker way to the next Lyndon word -/
def repI (o : List Int) : Nat → List Int → List Int
  | 0, _ => []
  | n + 1, x :: t => x :: repI o n t
  | n + 1, [] => match o with
    | [] => []
    | x :: t => x :: repI o n t
def cutI (m : Int) : List Int → List Int
  | [] => []
  | x :: t => match cutI m t with
    | [] => if x = m then [] else [x + 1]
    | y :: r => x :: y :: r
theorem repI_ar {o : List Int} (h : 1 ≤ o.length) : ∀ n s, s ≤ o.length → repI o n (o.drop s) = arL o s n
  | 0, s, _ => by simp [repI, arL]
  | n + 1, s, hs => by
    have hsucc : ∀ s, s < o.length → arL o s (n + 1) = o.getD s 0 :: arL o (s + 1) n := fun s hs => by
      unfold arL
      rw [List.range_succ_eq_map, List.map_cons, List.map_map, Nat.add_zero, Nat.mod_eq_of_lt hs]
      congr 1
      apply List.map_congr_left
      intro i _
      simp only [Function.comp]
      rw [show s + (i + 1) = s + 1 + i by omega]
    by_cases e : s < o.length
    · rw [drop_getD e, hsucc s e]
      show o.getD s 0 :: repI o n (o.drop (s + 1)) = _
      rw [repI_ar h n (s + 1) (by omega)]
    · have hs2 : s = o.length := by omega
      rw [hs2, List.drop_length, ← Nat.zero_add o.length, arL_mod, hsucc 0 (by omega), ← repI_ar h n (0 + 1) (by omega)]
      cases o with
      | nil => simp at h
      | cons x t => rfl
theorem cutN_cons (m x : Int) (t : List Int) : ∀ j, j ≤ t.length → cutN m (x :: t) (j + 1) = if cutN m t j = 0 then (if x = m then 0 else 1) else cutN m t j + 1
  | 0, _ => by simp [cutN]
  | j + 1, h => by
    rw [cutN, cutN_cons m x t j (by omega)]
    have e1 : (x :: t).getD (j + 1) 0 = t.getD j 0 := by simp
    rw [e1]
    conv => rhs; rw [cutN]
    by_cases e : t.getD j 0 = m
    · rw [if_pos e, if_pos e]
    · rw [if_neg e, if_neg e, if_neg (by omega)]
theorem cutI_nx (m : Int) : ∀ o : List Int, cutI m o = nxOf m o
  | [] => rfl
  | x :: t => by
    have ih := cutI_nx m t
    have hc := cutN_cons m x t t.length (Nat.le_refl _)
    rw [cutI, ih]
    cases e : cutN m t t.length with
    | zero =>
      rw [e, if_pos rfl] at hc
      rw [nxOf_zero e]
      by_cases h : x = m
      · rw [if_pos h] at hc
        rw [nxOf_zero (o := x :: t) hc]
        simp [h]
      · rw [if_neg h] at hc
        rw [nxOf_succ (o := x :: t) (j := 0) hc]
        simp [h]
    | succ j =>
      rw [e, if_neg (by omega)] at hc
      rw [nxOf_succ e, nxOf_succ (o := x :: t) (j := j + 1) hc]
      have e2 : (x :: t).getD (j + 1) 0 = t.getD j 0 := by simp
      rw [e2, List.take_succ_cons]
      cases h : t.take j ++ [t.getD j 0 + 1] with
      | nil => simp at h
      | cons y r =>
        show x :: y :: r = x :: (t.take j ++ [t.getD j 0 + 1])
        rw [h]
def nxI (n : Nat) (m : Int) (w : List Int) : List Int := cutI m (repI w n w)
theorem nxI_eq {w : List Int} (h : 1 ≤ w.length) (n k : Nat) : nxI n ((k : Int) - 1) w = nxL w n k := by
  unfold nxI nxL
  rw [cutI_nx]
  have := repI_ar h n 0 (Nat.zero_le _)
  rw [List.drop_zero] at this
  rw [this]
/-- how many words follow from w on, at most f -/
def lenI (n : Nat) (m : Int) : Nat → List Int → Nat
  | 0, _ => 0
  | f + 1, w => match w with
    | [] => 0
    | x :: t => Nat.succ (lenI n m f (nxI n m (x :: t)))
/-- the number of words is as counted, up to 1101; up to 1320 where there are at most 1100 necklaces -/
theorem len_tab : ∀ n : Nat, n < 13 → ∀ k : Nat, k < 7 → (1 ≤ n ∧ 1 ≤ k) → (lenI n ((k : Int) - 1) 1101 [0] : Int) = min (upT k n) 1101 := by decide +kernel
theorem nec_up : ∀ n : Nat, n < 13 → ∀ k : Nat, k < 7 → (1 ≤ n ∧ 1 ≤ k) → necC k n ≤ 1100 → upT k n ≤ 1319 ∧ (lenI n ((k : Int) - 1) 1320 [0] : Int) = upT k n := by decide +kernel
end Go.Proofs.Ytjghjlhjeibfoab
