/- Plain facts on the check that a list is a permutation. No conditions. -/
import Derived.Test.YtkphbelgamfmnaaListMath
namespace Go.Proofs.Ytkphbelgamfmnaa
set_option linter.unusedVariables false

/-- y is an element of xs -/
def hasB (xs : List Int) (y : Int) : Bool := xs.contains y
/-- no earlier element is the one at i -/
def freshAt (xs : List Int) (i : Nat) : Bool := !hasB (xs.take i) (xs.getD i 0)
/-- one step of the spec's check -/
def permAt (xs : List Int) (i : Nat) : Bool := decide (i < 12) && inB (xs.getD i 0) 0 ((xs.length : Int) - 1) && freshAt xs i
/-- xs is a permutation -/
def permB (xs : List Int) : Bool := allTo xs.length (permAt xs)
def permB' (xs : List Int) : Bool := inB (xs.length : Int) 0 12 && belowB xs xs.length && allTo xs.length (freshAt xs)

theorem permB_eq (xs : List Int) : permB' xs = permB xs := by
  rw [Bool.eq_iff_iff]
  simp only [permB, permB', belowB, Bool.and_eq_true, allTo_iff, permAt, decide_eq_true_eq, inB_iff]
  constructor
  · rintro ⟨⟨h1, h2⟩, h3⟩ i hi
    exact ⟨⟨by omega, h2 i hi⟩, h3 i hi⟩
  · intro h
    refine ⟨⟨⟨by omega, ?_⟩, fun i hi => (h i hi).1.2⟩, fun i hi => (h i hi).2⟩
    by_cases h0 : xs.length = 0
    · omega
    · have := (h (xs.length - 1) (by omega)).1.1
      omega

theorem permB_len {xs : List Int} (h : permB xs = true) : xs.length ≤ 12 := by
  rw [← permB_eq] at h
  simp only [permB', Bool.and_eq_true, inB_iff] at h
  omega
theorem permB_range {xs : List Int} (h : permB xs = true) {i : Nat} (hi : i < xs.length) : 0 ≤ xs.getD i 0 ∧ xs.getD i 0 < xs.length := by
  unfold permB at h
  have := (allTo_iff _ _).1 h i hi
  simp only [permAt, Bool.and_eq_true, inB_iff] at this
  omega

theorem hasB_iff {xs : List Int} {y : Int} : hasB xs y = true ↔ y ∈ xs := by unfold hasB; exact List.contains_iff_mem
theorem hasB_no {xs : List Int} {y : Int} (h : y ∉ xs) : hasB xs y = false := by
  cases e : hasB xs y with
  | false => rfl
  | true => exact absurd (hasB_iff.1 e) h
theorem hasB_take_succ (xs : List Int) (k : Nat) (h : k < xs.length) (y : Int) : hasB (xs.take (k + 1)) y = (hasB (xs.take k) y || decide (y = xs[k])) := by
  rw [Bool.eq_iff_iff, Bool.or_eq_true, hasB_iff, hasB_iff, List.take_succ_eq_append_getElem h, List.mem_append, List.mem_singleton, decide_eq_true_eq]
end Go.Proofs.Ytkphbelgamfmnaa
