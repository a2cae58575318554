/- Plain facts on lists of numbers: checks of all indices, last indices, combinations, permutations. No conditions beyond the stated ones. -/
import Derived.Test.YtkphbelgamfmnaaNums
namespace Go.Proofs.Ytkphbelgamfmnaa
set_option linter.unusedVariables false

/-- f holds at all indices below n -/
def allTo (n : Nat) (f : Nat → Bool) : Bool := (List.range n).all f
theorem allTo_zero (f : Nat → Bool) : allTo 0 f = true := rfl
theorem allTo_succ (n : Nat) (f : Nat → Bool) : allTo (n + 1) f = (allTo n f && f n) := by simp [allTo, List.range_succ]
theorem allTo_iff (n : Nat) (f : Nat → Bool) : allTo n f = true ↔ ∀ i, i < n → f i = true := by simp [allTo]
theorem allTo_no {n k : Nat} {f : Nat → Bool} (h : k < n) (hf : f k = false) : allTo n f = false := by
  cases e : allTo n f with
  | false => rfl
  | true => rw [(allTo_iff n f).1 e k h] at hf; cases hf
theorem allTo_next {k : Nat} {f : Nat → Bool} (h : allTo k f = true) (hf : f k = true) : allTo (k + 1) f = true := by rw [allTo_succ, h, hf]; rfl

/-- the last index below n at which f holds, or -1 -/
def lastIx (f : Nat → Bool) : Nat → Int
  | 0 => -1
  | n + 1 => if f n then (n : Int) else lastIx f n
theorem lastIx_yes {f : Nat → Bool} {n : Nat} (h : f n = true) : lastIx f (n + 1) = n := by rw [lastIx, if_pos h]
theorem lastIx_no {f : Nat → Bool} {n : Nat} (h : f n = false) : lastIx f (n + 1) = lastIx f n := by rw [lastIx, if_neg (by rw [h]; simp)]
theorem lastIx_ge (f : Nat → Bool) (n : Nat) : -1 ≤ lastIx f n := by
  induction n with
  | zero => exact Int.le_refl _
  | succ n ih => rw [lastIx]; split <;> omega
theorem lastIx_lt (f : Nat → Bool) (n : Nat) : lastIx f n < n := by
  induction n with
  | zero => rw [lastIx]; omega
  | succ n ih => rw [lastIx]; split <;> omega
theorem lastIx_neg (f : Nat → Bool) (n : Nat) : lastIx f n < 0 ↔ ∀ i, i < n → f i = false := by
  induction n with
  | zero => simp [lastIx]
  | succ n ih =>
    rw [lastIx]
    cases e : f n with
    | true =>
      simp only [if_true]
      exact ⟨fun h => by omega, fun h => by rw [h n (by omega)] at e; cases e⟩
    | false =>
      simp only [Bool.false_eq_true, if_false]
      rw [ih]
      exact ⟨fun h i hi => by
        by_cases hn : i = n
        · rw [hn]; exact e
        · exact h i (by omega), fun h i hi => h i (by omega)⟩

/-- one step of the spec's check that a list rises within bounds -/
def riseAt (xs : List Int) (lo hi : Int) (i : Nat) : Bool := inB (xs.getD i 0) lo hi && (i == 0 || decide (xs.getD (i - 1) 0 < xs.getD i 0))
def risingB (xs : List Int) (lo hi : Int) : Bool := allTo xs.length (riseAt xs lo hi)
def belowB (xs : List Int) (n : Int) : Bool := allTo xs.length (fun i => inB (xs.getD i 0) 0 (n - 1))
/-- xs is a combination of n -/
def combB (n : Int) (xs : List Int) : Bool := inB n 0 12 && decide ((xs.length : Int) ≤ n) && risingB xs 0 (n - 1)
def atLeastAt (xs : List Int) (i : Nat) : Bool := decide (xs.getD (i + 1) 0 ≤ xs.getD i 0)
def lessAt (xs : List Int) (i : Nat) : Bool := decide (xs.getD i 0 < xs.getD (i + 1) 0)
def combB' (n : Int) (xs : List Int) : Bool := inB n 0 12 && belowB xs n && decide (lastIx (atLeastAt xs) (xs.length - 1) < 0)

theorem inB_iff {n lo hi : Int} : inB n lo hi = true ↔ lo ≤ n ∧ n ≤ hi := by simp [inB]

theorem rise_low {xs : List Int} {lo hi : Int} (h : risingB xs lo hi = true) : ∀ i, i < xs.length → lo + i ≤ xs.getD i 0 := by
  unfold risingB at h
  rw [allTo_iff] at h
  intro i
  induction i with
  | zero =>
    intro hi
    have := h 0 hi
    simp only [riseAt, Bool.and_eq_true, inB_iff] at this
    omega
  | succ i ih =>
    intro hi
    have h1 := ih (by omega)
    have := h (i + 1) hi
    simp only [riseAt, Bool.and_eq_true, inB_iff, Bool.or_eq_true, beq_iff_eq, decide_eq_true_eq, Nat.add_sub_cancel] at this
    omega

theorem combB_eq (n : Int) (xs : List Int) : combB' n xs = combB n xs := by
  rw [Bool.eq_iff_iff]
  simp only [combB, combB', Bool.and_eq_true, decide_eq_true_eq, lastIx_neg]
  constructor
  · rintro ⟨⟨h1, h2⟩, h3⟩
    have hr : risingB xs 0 (n - 1) = true := by
      unfold risingB
      rw [allTo_iff]
      intro i hi
      unfold belowB at h2
      have h2' := (allTo_iff _ _).1 h2 i hi
      simp only [riseAt, Bool.and_eq_true, Bool.or_eq_true, beq_iff_eq, decide_eq_true_eq]
      refine ⟨h2', ?_⟩
      by_cases h0 : i = 0
      · exact .inl h0
      · right
        have := h3 (i - 1) (by omega)
        simp only [atLeastAt, decide_eq_false_iff_not, show i - 1 + 1 = i by omega] at this
        omega
    refine ⟨⟨h1, ?_⟩, hr⟩
    by_cases h0 : xs.length = 0
    · rw [inB_iff] at h1; omega
    · have := rise_low hr (xs.length - 1) (by omega)
      unfold risingB at hr
      have h4 := (allTo_iff _ _).1 hr (xs.length - 1) (by omega)
      simp only [riseAt, Bool.and_eq_true, inB_iff] at h4
      omega
  · rintro ⟨⟨h1, h2⟩, h3⟩
    unfold risingB at h3
    rw [allTo_iff] at h3
    refine ⟨⟨h1, ?_⟩, ?_⟩
    · unfold belowB
      rw [allTo_iff]
      intro i hi
      have := h3 i hi
      simp only [riseAt, Bool.and_eq_true] at this
      exact this.1
    · intro i hi
      have := h3 (i + 1) (by omega)
      simp only [riseAt, Bool.and_eq_true, Bool.or_eq_true, beq_iff_eq, decide_eq_true_eq, Nat.add_sub_cancel] at this
      simp only [atLeastAt, decide_eq_false_iff_not]
      omega
end Go.Proofs.Ytkphbelgamfmnaa
