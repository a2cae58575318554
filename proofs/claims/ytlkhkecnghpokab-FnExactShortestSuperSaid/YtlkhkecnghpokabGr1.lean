/- Contracts: l1Most, l1Least, spGrowth, spec.IsGrowth, spTop. Conditions: the slices read as lists of at most 2^20 numbers. -/
import Derived.Test.YtlkhkecnghpokabBs1
import Derived.Test.YtlkhkecnghpokabRow
namespace Go.Proofs.Ytlkhkecnghpokab
open Go.RowKit
set_option linter.unusedVariables false

/-- the greatest of the first k numbers, or -1 -/
def topTo (xs : List Int) : Nat → Int
  | 0 => -1
  | k + 1 => max (topTo xs k) (xs.getD k 0)
def topL (xs : List Int) : Int := topTo xs xs.length
def grAt (xs : List Int) (k : Nat) : Bool := inB (xs.getD k 0) 0 (topTo xs k + 1)
def grB (xs : List Int) : Bool := allTo xs.length (grAt xs) && inB (xs.length : Int) 1 12
theorem topTo_low (xs : List Int) (k : Nat) : -1 ≤ topTo xs k := by
  induction k with
  | zero => exact Int.le_refl _
  | succ k ih => rw [topTo]; omega
theorem topTo_le {xs : List Int} {k : Nat} (h : allTo k (grAt xs) = true) : topTo xs k < k := by
  induction k with
  | zero => show (-1 : Int) < 0; omega
  | succ k ih =>
    rw [allTo_succ, Bool.and_eq_true] at h
    have h1 := ih h.1
    have h2 := inB_iff.1 h.2
    rw [topTo]; omega
theorem topTo_ge {xs : List Int} {k i : Nat} (h : i < k) : xs.getD i 0 ≤ topTo xs k := by
  induction k with
  | zero => omega
  | succ k ih =>
    rw [topTo]
    by_cases e : i = k
    · subst e; omega
    · have := ih (by omega); omega
theorem topTo_mono {xs : List Int} {i k : Nat} (h : i ≤ k) : topTo xs i ≤ topTo xs k := by
  induction k with
  | zero => obtain rfl : i = 0 := by omega
            exact Int.le_refl _
  | succ k ih =>
    by_cases e : i = k + 1
    · subst e; exact Int.le_refl _
    · have := ih (by omega)
      rw [topTo]; omega
theorem grB_iff {xs : List Int} : grB xs = true ↔ (∀ i, i < xs.length → 0 ≤ xs.getD i 0 ∧ xs.getD i 0 ≤ topTo xs i + 1) ∧ 1 ≤ xs.length ∧ xs.length ≤ 12 := by
  unfold grB
  rw [Bool.and_eq_true, allTo_iff, inB_iff]
  constructor
  · rintro ⟨h1, h2, h3⟩
    exact ⟨fun i hi => inB_iff.1 (h1 i hi), by omega, by omega⟩
  · rintro ⟨h1, h2, h3⟩
    exact ⟨fun i hi => inB_iff.2 (h1 i hi), by omega, by omega⟩

theorem l1Least_any (a b : Int) (w : World) : Calls Try.prog 106 #[.int .i64 a, .int .i64 b] w fun e w' => e = .returned (.int .i64 (min a b)) ∧ w = w' := by
  by_cases h : a < b
  · have e : min a b = a := by omega
    rw [e]; clear e
    go_enter Try.func106, Try.ntmps106
    go_wp2
    go_ret
    exact ⟨rfl, rfl⟩
  · have e : min a b = b := by omega
    rw [e]; clear e
    go_enter Try.func106, Try.ntmps106
    go_wp2
    go_ret
    exact ⟨rfl, rfl⟩
end Go.Proofs.Ytlkhkecnghpokab
