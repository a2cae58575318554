/- Plain facts on factorials and binomial numbers up to 12. No conditions beyond those bounds. -/
namespace Go.Proofs.Ytkphbelgamfmnaa
set_option linter.unusedVariables false

def fact : Nat → Nat
  | 0 => 1
  | n + 1 => (n + 1) * fact n

def binom : Nat → Nat → Nat
  | _, 0 => 1
  | 0, _ + 1 => 0
  | n + 1, k + 1 => binom n (k + 1) + binom n k

theorem cast_mul_le {a b c : Nat} (h : a * b ≤ c) : (a : Int) * (b : Int) ≤ (c : Int) := by
  have h2 := Int.ofNat_le.2 h
  rwa [Int.natCast_mul] at h2
theorem fact_le : ∀ n, n < 13 → fact n ≤ 479001600 := by decide
theorem fact_pos : ∀ n, n < 13 → 1 ≤ fact n := by decide
theorem binom_le : ∀ n, n < 13 → ∀ k, k < 13 → binom n k ≤ 924 := by decide
theorem binom_step : ∀ n, n < 13 → ∀ i, i < n → binom n i * (n - i) / (i + 1) = binom n (i + 1) := by decide
theorem binom_mul : ∀ n, n < 13 → ∀ i, i < n → binom n i * (n - i) ≤ 12 * 924 := by decide
theorem binom_zero : ∀ n, n < 13 → ∀ k, k < 13 → n < k → binom n k = 0 := by decide
end Go.Proofs.Ytkphbelgamfmnaa
