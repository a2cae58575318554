/- Plain facts on the revolving list: the index that the elements tell, and the combination at an index. Conditions: at most 12 items. -/
import Derived.Test.YtijjdidljoicfaaRevM
import Derived.Test.YtijjdidljoicfaaColM
namespace Go.Proofs.Ytijjdidljoicfaa
set_option linter.unusedVariables false

theorem binom_self : ∀ n, n < 13 → binom n n = 1 := by decide
theorem revL_len : ∀ n, n ≤ 12 → ∀ k, k ≤ n → (revL n k).length = binom n k
  | 0, _, k, hk => by obtain rfl : k = 0 := by omega
                      rfl
  | n + 1, hn, 0, _ => by simp [revL, binom]
  | n + 1, hn, k + 1, hk => by
    rw [revL, binom]
    split
    · rename_i e
      subst e
      rw [binom_zero k (by omega) (k + 1) (by omega) (by omega), binom_self k (by omega)]; rfl
    · rw [List.length_append, List.length_map, List.length_reverse, revL_len n (by omega) (k + 1) (by omega), revL_len n (by omega) k (by omega)]
theorem revL_self : ∀ n, revL n n = [upTo n]
  | 0 => rfl
  | n + 1 => by rw [revL, if_pos rfl]
/-- how far the loop of RevolvingAt has come: m elements to find, all below x, the index left, the elements found -/
def RevInv (all : List Int) (x r m : Nat) (tail : List Int) : Prop := m ≤ x ∧ x ≤ 12 ∧ r < binom x m ∧ (revL x m).getD r [] ++ tail = all
theorem RevInv.down {all tail : List Int} {x r m : Nat} (h : RevInv all (x + 1) r (m + 1) tail) (hr : r < binom x (m + 1)) : RevInv all x r (m + 1) tail := by
  obtain ⟨h0, h12, h1, h2⟩ := h
  have hm : m + 1 ≤ x := by
    rcases Nat.lt_or_ge x (m + 1) with h | h
    · rw [binom_zero x (by omega) (m + 1) (by omega) h] at hr; omega
    · exact h
  refine ⟨hm, by omega, hr, ?_⟩
  rw [revL, if_neg (by omega)] at h2
  rw [← revL_len x (by omega) (m + 1) hm] at hr
  rw [← h2, List.getD_eq_getElem?_getD, List.getD_eq_getElem?_getD, List.getElem?_append_left hr]
theorem RevInv.take {all tail : List Int} {x r m : Nat} (h : RevInv all (x + 1) r (m + 1) tail) (hr : ¬ r < binom x (m + 1)) : RevInv all x (binom (x + 1) (m + 1) - 1 - r) m ((x : Int) :: tail) := by
  obtain ⟨h0, h12, h1, h2⟩ := h
  rw [binom] at h1 ⊢
  refine ⟨by omega, by omega, by omega, ?_⟩
  by_cases e : m = x
  · subst e
    rw [binom_self m (by omega), binom_zero m (by omega) (m + 1) (by omega) (by omega)] at h1 ⊢
    obtain rfl : r = 0 := by omega
    rw [revL, if_pos rfl] at h2
    rw [revL_self, ← h2, upTo_succ]
    simp
  · have hl1 := revL_len x (by omega) (m + 1) (by omega)
    have hl2 := revL_len x (by omega) m (by omega)
    rw [revL, if_neg e] at h2
    rw [← hl1, ← hl2] at h1 ⊢
    rw [← hl1] at hr
    have hlt : r - (revL x (m + 1)).length < (revL x m).length := by omega
    rw [← h2, List.getD_eq_getElem?_getD, List.getD_eq_getElem?_getD, List.getElem?_append_right (by omega), List.getElem?_map, List.getElem?_reverse hlt,
      show (revL x m).length - 1 - (r - (revL x (m + 1)).length) = (revL x (m + 1)).length + (revL x m).length - 1 - r by omega, List.getElem?_eq_getElem (by omega)]
    simp
/-- the index that the elements tell, one after the other -/
def rSum (xs : List Int) : Nat → Int
  | 0 => 0
  | m + 1 => (binom ((xs.getD m 0).toNat + 1) (m + 1) : Int) - 1 - rSum xs m
theorem rSum_congr {xs ys : List Int} : ∀ m, (∀ i, i < m → xs.getD i 0 = ys.getD i 0) → rSum xs m = rSum ys m
  | 0, _ => rfl
  | m + 1, h => by rw [rSum, rSum, rSum_congr m (fun i hi => h i (by omega)), h m (by omega)]
theorem rSum_snoc (xs : List Int) (x : Nat) : rSum (xs ++ [(x : Int)]) (xs.length + 1) = (binom (x + 1) (xs.length + 1) : Int) - 1 - rSum xs xs.length := by
  rw [rSum, rSum_congr (ys := xs) xs.length (fun i hi => by simp [List.getD_eq_getElem?_getD, List.getElem?_append_left hi])]
  simp
theorem rSum_upTo : ∀ k, k ≤ 12 → rSum (upTo k) k = 0
  | 0, _ => rfl
  | k + 1, h => by
    have h1 := rSum_snoc (upTo k) k
    rw [upTo_length, rSum_upTo k (by omega), binom_self (k + 1) (by omega)] at h1
    rw [upTo_succ, h1]; rfl
/-- each one's index is told by its elements -/
theorem rSum_rev : ∀ n, n ≤ 12 → ∀ k, k ≤ n → ∀ j (h : j < (revL n k).length), rSum ((revL n k)[j]) k = j
  | 0, _, k, hk, j, h => by
    obtain rfl : k = 0 := by omega
    simp [revL] at h
    subst h
    rfl
  | n + 1, hn, 0, _, j, h => by
    simp [revL] at h
    subst h
    rfl
  | n + 1, hn, k + 1, hk, j, h => by
    by_cases e : k = n
    · subst e
      have hj : j = 0 := by rw [revL_self] at h; simpa using h
      subst hj
      simp only [revL_self, List.getElem_cons_zero]
      exact rSum_upTo _ (by omega)
    · have hl1 := revL_len n (by omega) (k + 1) (by omega)
      have hl2 := revL_len n (by omega) k (by omega)
      have hh := h
      simp only [revL, if_neg e] at h ⊢
      rw [List.length_append, List.length_map, List.length_reverse] at h
      by_cases hj : j < (revL n (k + 1)).length
      · rw [List.getElem_append_left hj]
        exact rSum_rev n (by omega) (k + 1) (by omega) j hj
      · rw [List.getElem_append_right (by omega), List.getElem_map, List.getElem_reverse]
        have ih := rSum_rev n (by omega) k (by omega) ((revL n k).length - 1 - (j - (revL n (k + 1)).length)) (by omega)
        obtain ⟨l, hl⟩ : ∃ l, l = (revL n k)[(revL n k).length - 1 - (j - (revL n (k + 1)).length)]'(by omega) := ⟨_, rfl⟩
        rw [← hl] at ih ⊢
        have hlen : l.length = k := by rw [hl]; exact revL_elem n k (by omega) _ (List.getElem_mem _)
        have h1 := rSum_snoc l n
        rw [hlen, ih, binom, ← hl1, ← hl2] at h1
        rw [h1]
        omega
theorem rev_mem : ∀ n, n ≤ 12 → ∀ (xs : List Int), xs.length ≤ n → Rises n xs → xs ∈ revL n xs.length
  | 0, _, xs, hl, _ => by
    obtain rfl : xs = [] := List.eq_nil_of_length_eq_zero (by omega)
    simp [revL]
  | n + 1, hn, [], _, _ => by simp [revL]
  | n + 1, hn, x :: t, hl, h => by
    obtain ⟨ys, z, e⟩ : ∃ ys z, x :: t = ys ++ [z] := ⟨(x :: t).dropLast, (x :: t).getLast (by simp), (List.dropLast_concat_getLast (by simp)).symm⟩
    have hlen : (x :: t).length = ys.length + 1 := by rw [e]; simp
    have hz : (x :: t).getD ys.length 0 = z := by rw [e]; simp
    have hys : ∀ i, i < ys.length → (x :: t).getD i 0 = ys.getD i 0 := fun i hi => by
      rw [e]; simp [List.getD_eq_getElem?_getD, List.getElem?_append_left hi]
    have hzb := h.1 ys.length (by omega)
    rw [hz] at hzb
    by_cases hzn : z = n
    · have hry : Rises n ys := by
        refine ⟨fun i hi => ?_, fun i hi => ?_⟩
        · have h1 := h.1 i (by omega)
          have h2 := h.get_le (ys.length - i) i (by omega)
          rw [show i + (ys.length - i) = ys.length by omega, hz] at h2
          rw [hys i hi] at h1 h2
          omega
        · have := h.2 i (by omega)
          rwa [hys i (by omega), hys (i + 1) (by omega)] at this
      have ih := rev_mem n (by omega) ys (by omega) hry
      rw [hlen, revL]
      split
      · rename_i e2
        rw [e2, revL_self] at ih
        rw [e, hzn, upTo_succ, List.mem_singleton.1 ih]; simp
      · rw [List.mem_append]
        exact .inr (List.mem_map.2 ⟨ys, List.mem_reverse.2 ih, by rw [e, hzn]⟩)
    · have hr : Rises n (x :: t) := by
        refine ⟨fun i hi => ?_, h.2⟩
        have h1 := h.1 i hi
        have h2 := h.get_le (ys.length - i) i (by omega)
        rw [show i + (ys.length - i) = ys.length by omega, hz] at h2
        omega
      have hle : (x :: t).length ≤ n := by
        have h3 := hr.get_le ys.length 0 (by omega)
        have h4 := hr.1 ys.length (by omega)
        have h5 := hr.1 0 (by omega)
        rw [Nat.zero_add] at h3
        omega
      have ih := rev_mem n (by omega) (x :: t) hle hr
      rw [hlen] at ih hle ⊢
      rw [revL, if_neg (by omega), List.mem_append]
      exact .inl ih
theorem place_rev {n : Nat} {xs : List Int} (hn : n ≤ 12) (hl : xs.length ≤ n) (h : Rises n xs) : placeIn xs (revL n xs.length) = rSum xs xs.length := by
  obtain ⟨j, hj, e⟩ := List.mem_iff_getElem.1 (rev_mem n hn xs hl h)
  have hr := rSum_rev n hn xs.length hl
  have h1 := hr j hj
  rw [e] at h1
  rw [h1]
  refine placeIn_found xs _ j hj (fun i hi he => ?_) e
  have h2 := hr i (by omega)
  rw [he] at h2
  omega
end Go.Proofs.Ytijjdidljoicfaa
