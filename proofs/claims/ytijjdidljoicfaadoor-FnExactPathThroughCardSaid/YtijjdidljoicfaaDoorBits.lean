/- Bits of small natural numbers as ints, and shifts by small counts. No conditions. -/
import Derived.Test.YtijjdidljoicfaaDoorGray1
import Derived.Laws.BitsLemmas
namespace Go.Proofs.YtijjdidljoicfaaDoor
open Go.RowKit
set_option linter.unusedVariables false

theorem wraps_i64 (n : Int) (h₀ : 0 ≤ n) (h₁ : n < 2 ^ 62) : IntKind.i64.wrap n = n := by rw [IntKind.wrap_i64]; omega
theorem and_i64 (a b : Nat) (ha : a < 2 ^ 62) (hb : b < 2 ^ 62) : bits .and .i64 a b = ((a &&& b : Nat) : Int) := (bits_nat .i64 62 (by decide) wraps_i64 a b ha hb).1
theorem or_i64 (a b : Nat) (ha : a < 2 ^ 62) (hb : b < 2 ^ 62) : bits .or .i64 a b = ((a ||| b : Nat) : Int) := (bits_nat .i64 62 (by decide) wraps_i64 a b ha hb).2
theorem xor_i64 (a b : Nat) (ha : a < 2 ^ 62) (hb : b < 2 ^ 62) : bits .xor .i64 a b = ((a ^^^ b : Nat) : Int) := by
  have hp : 2 ^ 62 ≤ 2 ^ IntKind.i64.bits := Nat.pow_le_pow_right (by decide) (by decide)
  have ha' : a % 2 ^ IntKind.i64.bits = a := Nat.mod_eq_of_lt (Nat.lt_of_lt_of_le ha hp)
  have hb' : b % 2 ^ IntKind.i64.bits = b := Nat.mod_eq_of_lt (Nat.lt_of_lt_of_le hb hp)
  have cast : ∀ n : Nat, n < 2 ^ 62 → ((n : Nat) : Int) < 2 ^ 62 := fun n h => by exact_mod_cast h
  simp only [bits, BitVec.ofInt_natCast, BitVec.toNat_xor, BitVec.toNat_ofNat, ha', hb']
  exact wraps_i64 _ (Int.natCast_nonneg _) (cast _ (Nat.xor_lt_two_pow ha hb))
theorem wrap64_small (n : Int) (h₀ : 0 ≤ n) (h₁ : n < 4611686018427387904) : wrap64 n = n := by unfold wrap64; omega
theorem shl1_small (m : Nat) (h : m < 11) : wrap64 (2 ^ min m 64) = ((2 ^ m : Nat) : Int) := by
  have h1 := pow_le_1024 m h
  rw [show min m 64 = m by omega, ← pow_int]
  generalize 2 ^ m = p at h1 ⊢
  exact wrap64_small _ (by omega) (by omega)
theorem min64 {m : Nat} (h : m < 11) : min m 64 = m := by omega
theorem small62 {a : Nat} (h : a < 1048576) : a < 2 ^ 62 := Nat.lt_of_lt_of_le h (by decide)
end Go.Proofs.YtijjdidljoicfaaDoor
