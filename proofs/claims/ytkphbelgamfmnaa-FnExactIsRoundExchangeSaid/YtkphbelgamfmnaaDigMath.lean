/- Plain facts on bases, their products, digits and ranks. No conditions beyond the stated ones. -/
import Derived.Test.YtkphbelgamfmnaaListMath
import Derived.Test.YtkphbelgamfmnaaSits
namespace Go.Proofs.Ytkphbelgamfmnaa
set_option linter.unusedVariables false

def prodTo (xs : List Int) : Nat → Int
  | 0 => 1
  | k + 1 => prodTo xs k * xs.getD k 0
def baseAt (xs : List Int) (i : Nat) : Bool := inB (xs.getD i 0) 2 12
def allBases (xs : List Int) : Bool := allTo xs.length (baseAt xs)
/-- xs are bases -/
def basesB (xs : List Int) : Bool := decide (xs.length ≤ 12) && allBases xs && decide (prodTo xs xs.length ≤ 1000000)

theorem base_range {xs : List Int} (h : allBases xs = true) {i : Nat} (hi : i < xs.length) : 2 ≤ xs.getD i 0 ∧ xs.getD i 0 ≤ 12 :=
  inB_iff.1 ((allTo_iff _ _).1 h i hi)
theorem prodTo_pos {xs : List Int} {k : Nat} (h : allTo k (baseAt xs) = true) : 1 ≤ prodTo xs k := by
  induction k with
  | zero => simp [prodTo]
  | succ k ih =>
    rw [allTo_succ, Bool.and_eq_true] at h
    have h1 := ih h.1
    have h2 := (inB_iff.1 h.2).1
    have := Int.mul_le_mul h1 h2 (by omega) (by omega)
    rw [prodTo]
    omega
theorem prodTo_le {xs : List Int} {k : Nat} (h : allTo k (baseAt xs) = true) : prodTo xs k ≤ 12 ^ k := by
  induction k with
  | zero => simp [prodTo]
  | succ k ih =>
    have hp := prodTo_pos h
    rw [allTo_succ, Bool.and_eq_true] at h
    have h1 := ih h.1
    have h2 := (inB_iff.1 h.2).2
    have h3 := prodTo_pos h.1
    have h4 := (inB_iff.1 h.2).1
    have := Int.mul_le_mul h1 h2 (by omega) (by exact Int.le_trans (by omega) h1)
    rw [prodTo, Int.pow_succ]
    exact this
theorem pow12 : ∀ k, k < 13 → (12 : Int) ^ k ≤ 8916100448256 := by decide
theorem prodTo_bound {xs : List Int} {k : Nat} (h : allTo k (baseAt xs) = true) (hk : k ≤ 12) : prodTo xs k ≤ 8916100448256 := Int.le_trans (prodTo_le h) (pow12 k (by omega))
theorem allTo_mono {n k : Nat} {f : Nat → Bool} (h : allTo n f = true) (hk : k ≤ n) : allTo k f = true := (allTo_iff _ _).2 (fun i hi => (allTo_iff _ _).1 h i (by omega))
theorem prodTo_step {xs : List Int} {k : Nat} (h : allTo (k + 1) (baseAt xs) = true) : prodTo xs k ≤ prodTo xs (k + 1) := by
  have h1 := prodTo_pos (allTo_mono h (Nat.le_succ k))
  rw [allTo_succ, Bool.and_eq_true] at h
  have h4 := (inB_iff.1 h.2).1
  have := Int.mul_le_mul (Int.le_refl (prodTo xs k)) (show 1 ≤ xs.getD k 0 by omega) (by omega) (by omega)
  rw [prodTo]
  omega
theorem prodTo_mono {xs : List Int} {k n : Nat} (h : allTo n (baseAt xs) = true) (hk : k ≤ n) : prodTo xs k ≤ prodTo xs n := by
  induction n with
  | zero =>
    obtain rfl : k = 0 := by omega
    exact Int.le_refl _
  | succ n ih =>
    by_cases e : k = n + 1
    · rw [e]; exact Int.le_refl _
    · exact Int.le_trans (ih (allTo_mono h (Nat.le_succ n)) (by omega)) (prodTo_step h)

theorem basesB_iff {xs : List Int} : basesB xs = true ↔ xs.length ≤ 12 ∧ allBases xs = true ∧ prodTo xs xs.length ≤ 1000000 := by
  simp only [basesB, Bool.and_eq_true, decide_eq_true_eq]
  exact ⟨fun h => ⟨h.1.1, h.1.2, h.2⟩, fun h => ⟨⟨h.1, h.2.1⟩, h.2.2⟩⟩

/-- what is left of r behind the last d digits -/
def remD (xs : List Int) (r : Int) : Nat → Int
  | 0 => r
  | d + 1 => remD xs r d / xs.getD (xs.length - 1 - d) 0
def digitsL (xs : List Int) (r : Int) : List Int := (List.range xs.length).map (fun i : Nat => remD xs r (xs.length - 1 - i) % xs.getD i 0)
theorem digitsL_length (xs : List Int) (r : Int) : (digitsL xs r).length = xs.length := by simp [digitsL]
theorem digitsL_getD {xs : List Int} {r : Int} {i : Nat} (h : i < xs.length) : (digitsL xs r).getD i 0 = remD xs r (xs.length - 1 - i) % xs.getD i 0 := by simp [digitsL, h]
theorem remD_range {xs : List Int} {r : Int} (h : allBases xs = true) (hr : 0 ≤ r) (d : Nat) (hd : d ≤ xs.length) : 0 ≤ remD xs r d ∧ remD xs r d ≤ r := by
  induction d with
  | zero => exact ⟨hr, Int.le_refl _⟩
  | succ d ih =>
    have h1 := ih (by omega)
    have h2 := (base_range h (show xs.length - 1 - d < xs.length by omega)).1
    rw [remD]
    exact ⟨Int.ediv_nonneg h1.1 (by omega), Int.le_trans (Int.ediv_le_self _ h1.1) h1.2⟩
/-- digits with a rank -/
def digB (xs : List Int) (r : Int) : Bool := basesB xs && inB r 0 (prodTo xs xs.length - 1)
def digRes (xs : List Int) (r : Int) : List Int := if digB xs r = true then digitsL xs r else []
theorem digRes_yes {xs : List Int} {r : Int} (h : digB xs r = true) : digRes xs r = digitsL xs r := by unfold digRes; rw [if_pos h]
theorem digRes_no {xs : List Int} {r : Int} (h : digB xs r = false) : digRes xs r = [] := by unfold digRes; rw [if_neg (by rw [h]; simp)]
theorem bound_DigitsAt (xs : List Int) (r : Int) : (digRes xs r).length ≤ 1048576 := by
  by_cases h : digB xs r = true
  · rw [digRes_yes h, digitsL_length]
    simp only [digB, Bool.and_eq_true] at h
    have := (basesB_iff.1 h.1).1
    omega
  · rw [digRes_no (by simpa using h)]; simp

/-- ys are digits for xs -/
def areDig (xs ys : List Int) : Bool := decide (ys.length = xs.length) && allTo ys.length (fun i => inB (ys.getD i 0) 0 (xs.getD i 0 - 1))
def numTo (xs ys : List Int) : Nat → Int
  | 0 => 0
  | k + 1 => numTo xs ys k * xs.getD k 0 + ys.getD k 0
theorem numTo_range {xs ys : List Int} (h : allBases xs = true) (hd : areDig xs ys = true) (k : Nat) (hk : k ≤ xs.length) : 0 ≤ numTo xs ys k ∧ numTo xs ys k < prodTo xs k := by
  simp only [areDig, Bool.and_eq_true, decide_eq_true_eq] at hd
  induction k with
  | zero => simp [numTo, prodTo]
  | succ k ih =>
    have h1 := ih (by omega)
    have h2 := base_range h (show k < xs.length by omega)
    have h3 := inB_iff.1 ((allTo_iff _ _).1 hd.2 k (by omega))
    have h4 := Int.mul_le_mul (show numTo xs ys k + 1 ≤ prodTo xs k by omega) (Int.le_refl (xs.getD k 0)) (by omega) (by omega)
    have h5 := Int.mul_nonneg h1.1 (show 0 ≤ xs.getD k 0 by omega)
    rw [Int.add_mul] at h4
    rw [numTo, prodTo]
    omega
def rankB (xs ys : List Int) : Bool := basesB xs && areDig xs ys
def rankRes (xs ys : List Int) : Int := if rankB xs ys = true then numTo xs ys ys.length else 0
end Go.Proofs.Ytkphbelgamfmnaa
