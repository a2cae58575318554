/- The mathematics of bits that are moved. No conditions. -/
import Derived.Test.YteejdagnlepegaaPermMath
namespace Go.Proofs.Yteejdagnlepegaa
set_option linter.unusedVariables false

/-- the bits below k of w, each moved to the place that 'to' tells -/
def movO (w : Nat) (to : List Int) : Nat → Nat
  | 0 => 0
  | k + 1 => movO w to k ||| w / 2 ^ k % 2 * 2 ^ (to.getD k 0).toNat
set_option maxRecDepth 100000 in
theorem or_two_pow : ∀ t, t < 10 → ∀ x, x < 1024 → x.testBit t = false → x ||| 2 ^ t = x + 2 ^ t := by decide +kernel
theorem bit_mul (b t p : Nat) (hb : b < 2) (h : (b * 2 ^ t).testBit p = true) : p = t := by
  have : b = 0 ∨ b = 1 := by omega
  rcases this with rfl | rfl
  · simp at h
  · rw [Nat.one_mul, Nat.testBit_two_pow] at h
    simp at h; omega
theorem movO_bit (w : Nat) (to : List Int) (k p : Nat) (h : (movO w to k).testBit p = true) : ∃ i, i < k ∧ (to.getD i 0).toNat = p := by
  induction k with
  | zero => simp [movO] at h
  | succ k ih =>
    rw [movO, Nat.testBit_or, Bool.or_eq_true] at h
    rcases h with h | h
    · obtain ⟨i, h1, h2⟩ := ih h
      exact ⟨i, by omega, h2⟩
    · exact ⟨k, by omega, (bit_mul _ _ _ (by omega) h).symm⟩
theorem movO_lt (w : Nat) (to : List Int) (n : Nat) (h : ∀ i, i < n → (to.getD i 0).toNat < n) (k : Nat) (hk : k ≤ n) : movO w to k < 2 ^ n := by
  induction k with
  | zero => exact Nat.two_pow_pos n
  | succ k ih =>
    rw [movO]
    refine Nat.or_lt_two_pow (ih (by omega)) ?_
    have h1 := h k (by omega)
    have h2 : 2 ^ (to.getD k 0).toNat < 2 ^ n := Nat.pow_lt_pow_right (by omega) h1
    have h3 : w / 2 ^ k % 2 = 0 ∨ w / 2 ^ k % 2 = 1 := by omega
    rcases h3 with h3 | h3 <;> rw [h3]
    · rw [Nat.zero_mul]; exact Nat.two_pow_pos n
    · rwa [Nat.one_mul]
theorem movO_add (w : Nat) (to : List Int) (n : Nat) (hn : n ≤ 10) (h : ∀ i, i < n → (to.getD i 0).toNat < n) (hd : ∀ i j, i < j → j < n → (to.getD i 0).toNat ≠ (to.getD j 0).toNat) (k : Nat) (hk : k < n) :
    movO w to (k + 1) = movO w to k + w / 2 ^ k % 2 * 2 ^ (to.getD k 0).toNat := by
  rw [movO]
  have h3 : w / 2 ^ k % 2 = 0 ∨ w / 2 ^ k % 2 = 1 := by omega
  rcases h3 with h3 | h3 <;> rw [h3]
  · simp
  · rw [Nat.one_mul]
    have hp : 2 ^ n ≤ 2 ^ 10 := Nat.pow_le_pow_right (by omega) hn
    have h4 := movO_lt w to n h k (by omega)
    refine or_two_pow _ (by have := h k hk; omega) _ (by omega) ?_
    cases e : (movO w to k).testBit (to.getD k 0).toNat with
    | false => rfl
    | true =>
      obtain ⟨i, h5, h6⟩ := movO_bit w to k _ e
      exact absurd h6 (hd i k h5 hk)
/-- A permutation's elements are in range and differ. -/
theorem permB_nat {to : List Int} (h : permB to = true) : (∀ i, i < to.length → (to.getD i 0).toNat < to.length ∧ 0 ≤ to.getD i 0) ∧ ∀ i j, i < j → j < to.length → (to.getD i 0).toNat ≠ (to.getD j 0).toNat := by
  have hr : ∀ i, i < to.length → 0 ≤ to.getD i 0 ∧ to.getD i 0 < to.length := fun i hi => permB_range h hi
  refine ⟨fun i hi => by have := hr i hi; omega, fun i j hij hj e => ?_⟩
  have h1 := hr i (by omega)
  have h2 := hr j hj
  have e2 : to.getD i 0 = to.getD j 0 := by omega
  unfold permB at h
  have h3 := (allTo_iff _ _).1 h j hj
  simp only [permAt, Bool.and_eq_true, freshAt, Bool.not_eq_true'] at h3
  have h4 : to.getD j 0 ∈ to.take j := by
    rw [← e2]
    have hi : i < to.length := by omega
    have : to.getD i 0 = to[i] := by simp [List.getD_eq_getElem?_getD, hi]
    rw [this]
    exact List.mem_take_iff_getElem.2 ⟨i, by omega, rfl⟩
  rw [hasB_iff.2 h4] at h3
  simp at h3
end Go.Proofs.Yteejdagnlepegaa
