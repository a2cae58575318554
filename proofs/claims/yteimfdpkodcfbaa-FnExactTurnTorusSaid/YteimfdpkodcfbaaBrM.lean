/- Plain facts on cycles and their windows: cycles, windows at all places, places near a window, spreads. No conditions. -/
import Derived.Test.YteimfdpkodcfbaaLy1
import Derived.Test.YteimfdpkodcfbaaLcM
namespace Go.Proofs.Yteimfdpkodcfbaa
set_option linter.unusedVariables false

/-- a cycle over k letters -/
def cycB (xs : List Int) (k : Int) : Bool := inB k 1 6 && (inB (xs.length : Int) 1 1024 && belowB xs k)
theorem cycB_iff {xs : List Int} {k : Int} : cycB xs k = true ↔ (1 ≤ k ∧ k ≤ 6) ∧ (1 ≤ xs.length ∧ xs.length ≤ 1024) ∧ ∀ i, i < xs.length → 0 ≤ xs.getD i 0 ∧ xs.getD i 0 ≤ k - 1 := by
  have e : ((1 : Int) ≤ (xs.length : Int) ∧ (xs.length : Int) ≤ 1024) ↔ (1 ≤ xs.length ∧ xs.length ≤ 1024) := by omega
  simp only [cycB, belowB, Bool.and_eq_true, allTo_iff, inB_iff, e]
theorem cycB_len {xs : List Int} {k : Int} (h : cycB xs k = true) : 1 ≤ xs.length ∧ xs.length ≤ 1024 := (cycB_iff.1 h).2.1
theorem cycB_small {xs : List Int} {k : Int} (h : cycB xs k = true) : smallL xs := fun i hi => by
  have h1 := cycB_iff.1 h
  have := h1.2.2 i hi
  omega
/-- what a function answers where its condition b is not met: d -/
def atB {T : Type} (b : Bool) (d r : T) : T := if b = true then r else d
theorem atB_yes {T : Type} {b : Bool} {d r : T} (h : b = true) : atB b d r = r := by unfold atB; rw [if_pos h]
theorem atB_no {T : Type} {b : Bool} {d r : T} (h : b = false) : atB b d r = d := by unfold atB; rw [if_neg (by rw [h]; simp)]
/-- the windows of the length n at all places -/
def winL (xs : List Int) (n : Nat) : List (List Int) := (List.range xs.length).map (fun p : Nat => arL xs p n)
theorem winL_len (xs : List Int) (n : Nat) : (winL xs n).length = xs.length := by simp [winL]
theorem winL_at {xs : List Int} {n p : Nat} (h : p < xs.length) (h' : p < (winL xs n).length) : (winL xs n)[p] = arL xs p n := by simp [winL]
/-- at how many of the first k places two lists differ -/
def difT (a b : List Int) : Nat → Nat
  | 0 => 0
  | k + 1 => difT a b k + if a.getD k 0 = b.getD k 0 then 0 else 1
theorem difT_le (a b : List Int) (k : Nat) : difT a b k ≤ k := by
  induction k with
  | zero => exact Nat.le_refl _
  | succ k ih => rw [difT]; split <;> omega
theorem difT_mono (a b : List Int) {i k : Nat} (h : i ≤ k) : difT a b i ≤ difT a b k := by
  induction k with
  | zero => obtain rfl : i = 0 := by omega
            exact Nat.le_refl _
  | succ k ih =>
    by_cases e : i = k + 1
    · rw [e]; exact Nat.le_refl _
    · have := ih (by omega)
      rw [difT]; split <;> omega
theorem difT_eq {a b a' b' : List Int} {k : Nat} (h : ∀ i, i < k → (a.getD i 0 = b.getD i 0 ↔ a'.getD i 0 = b'.getD i 0)) : difT a b k = difT a' b' k := by
  induction k with
  | zero => rfl
  | succ k ih =>
    rw [difT, difT, ih (fun i hi => h i (by omega))]
    by_cases e : a.getD k 0 = b.getD k 0
    · rw [if_pos e, if_pos ((h k (by omega)).1 e)]
    · rw [if_neg e, if_neg (fun e2 => e ((h k (by omega)).2 e2))]
theorem difT_symm (a b : List Int) (k : Nat) : difT a b k = difT b a k := difT_eq (fun _ _ => ⟨Eq.symm, Eq.symm⟩)
/-- at how many places the window ys differs from that at the place p -/
def farP (xs ys : List Int) (p : Nat) : Nat := difT ys (arL xs p ys.length) ys.length
/-- the first k places at which the window differs in at most m letters -/
def nearT (xs ys : List Int) (m : Nat) : Nat → List Int
  | 0 => []
  | k + 1 => nearT xs ys m k ++ if farP xs ys k ≤ m then [(k : Int)] else []
theorem nearT_len (xs ys : List Int) (m k : Nat) : (nearT xs ys m k).length ≤ k := by
  induction k with
  | zero => exact Nat.le_refl _
  | succ k ih => rw [nearT]; split <;> simp <;> omega
theorem nearT_yes {xs ys : List Int} {m k : Nat} (h : farP xs ys k ≤ m) : nearT xs ys m (k + 1) = nearT xs ys m k ++ [(k : Int)] := by rw [nearT, if_pos h]
theorem nearT_no {xs ys : List Int} {m k : Nat} (h : ¬ farP xs ys k ≤ m) : nearT xs ys m (k + 1) = nearT xs ys m k := by rw [nearT, if_neg h, List.append_nil]
def nearL (xs ys : List Int) (m : Nat) : List Int := nearT xs ys m xs.length
theorem nearT_mem {xs ys : List Int} {m k : Nat} {x : Int} (h : x ∈ nearT xs ys m k) : ∃ p : Nat, x = (p : Int) ∧ p < k ∧ farP xs ys p ≤ m := by
  induction k with
  | zero => simp [nearT] at h
  | succ k ih =>
    rw [nearT] at h
    rcases List.mem_append.1 h with h | h
    · obtain ⟨p, h1, h2, h3⟩ := ih h
      exact ⟨p, h1, by omega, h3⟩
    · by_cases e : farP xs ys k ≤ m
      · rw [if_pos e] at h
        exact ⟨k, by simpa using h, by omega, e⟩
      · rw [if_neg e] at h; simp at h
theorem farP_zero {xs ys : List Int} {p : Nat} (h : farP xs ys p = 0) (i : Nat) (hi : i < ys.length) : ys.getD i 0 = xs.getD ((p + i) % xs.length) 0 := by
  have h1 : difT ys (arL xs p ys.length) (i + 1) = 0 := by
    have := difT_mono ys (arL xs p ys.length) (show i + 1 ≤ ys.length by omega)
    unfold farP at h; omega
  rw [difT] at h1
  by_cases e : ys.getD i 0 = (arL xs p ys.length).getD i 0
  · rw [e, arL_at hi]
  · rw [if_neg e] at h1; omega
end Go.Proofs.Yteimfdpkodcfbaa
