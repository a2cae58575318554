/- The mathematics of bits that are set. No conditions. -/
import Derived.Test.YtijjdidljoicfaaDoorGrayM
namespace Go.Proofs.YtijjdidljoicfaaDoor
set_option linter.unusedVariables false

/-- the parity of the bits below k -/
def oddTo (w : Nat) : Nat → Bool
  | 0 => false
  | k + 1 => (oddTo w k != decide (w / 2 ^ k % 2 = 1))
def popTo (w : Nat) : Nat → Nat
  | 0 => 0
  | k + 1 => popTo w k + w / 2 ^ k % 2
def popN (w : Nat) : Nat := popTo w 10
theorem odd_pop (w k : Nat) : oddTo w k = decide (popTo w k % 2 = 1) := by
  induction k with
  | zero => rfl
  | succ k ih =>
    rw [oddTo, popTo, ih, Bool.eq_iff_iff]
    have h : w / 2 ^ k % 2 = 0 ∨ w / 2 ^ k % 2 = 1 := by omega
    rcases h with h | h <;> rw [h] <;> simp <;> omega
theorem popTo_end {w j : Nat} (h : w / 2 ^ j = 0) (k : Nat) : popTo w (j + k) = popTo w j := by
  induction k with
  | zero => rfl
  | succ k ih =>
    rw [show j + (k + 1) = (j + k) + 1 by omega, popTo, ih, Nat.pow_add, ← Nat.div_div_eq_div_mul, h]
    simp
/-- What math/bits.OnesCount64 reckons. -/
def oc64 (x : Nat) : Nat :=
  let a := ((x / 2 &&& 6148914691236517205) + (x &&& 6148914691236517205)) % 18446744073709551616
  let b := ((a / 4 &&& 3689348814741910323) + (a &&& 3689348814741910323)) % 18446744073709551616
  let c := ((b / 16 + b) % 18446744073709551616) &&& 1085102592571150095
  let d := (c + c / 256) % 18446744073709551616
  let e := (d + d / 65536) % 18446744073709551616
  let f := (e + e / 4294967296) % 18446744073709551616
  f % 128
set_option maxRecDepth 100000 in
theorem oc64_pop : ∀ x, x < 1024 → oc64 x = popN x := by decide +kernel
end Go.Proofs.YtijjdidljoicfaaDoor
