/- Contracts on words of bits: gcBits, gcWord, gcWords, isBitCount, isBitWord, areBitWords. Conditions: the stated ranges of the arguments; slices read as lists. -/
import Derived.Test.YtijjdidljoicfaaDoorGrayM
import Derived.Test.YtijjdidljoicfaaDoorDig1
import Derived.Test.YtijjdidljoicfaaDoorComb1
namespace Go.Proofs.YtijjdidljoicfaaDoor
open Go.RowKit
set_option linter.unusedVariables false

/-- x is a word of n bits (for n in 1..10) -/
def wordB (n x : Int) : Bool := inB x 0 (2 ^ n.toNat - 1)
/-- n is a number of bits and x a word -/
def bitWordB (n x : Int) : Bool := inB n 1 10 && wordB n x
/-- xs are words of n bits -/
def wordsB (n : Int) (xs : List Int) : Bool := inB n 1 10 && decide (xs.length ≤ 1100) && allTo xs.length (fun i => wordB n (xs.getD i 0))
theorem bits_cases {n : Int} (h : inB n 1 10 = true) : n = 1 ∨ n = 2 ∨ n = 3 ∨ n = 4 ∨ n = 5 ∨ n = 6 ∨ n = 7 ∨ n = 8 ∨ n = 9 ∨ n = 10 := by
  have := inB_iff.1 h
  omega
theorem wordsB_yes {n : Int} {xs : List Int} (h1 : inB n 1 10 = true) (h2 : xs.length ≤ 1100) : wordsB n xs = allTo xs.length (fun i => inB (xs.getD i 0) 0 (2 ^ n.toNat - 1)) := by
  rw [wordsB, h1, decide_eq_true h2]; rfl
theorem bitWordB_yes {n x : Int} (h1 : inB n 1 10 = true) (h2 : 0 ≤ x) : bitWordB n x = decide (x < 2 ^ n.toNat) := by
  rw [bitWordB, h1, wordB, inB, decide_eq_true h2, Bool.true_and, Bool.true_and]
  rw [Bool.eq_iff_iff, decide_eq_true_eq, decide_eq_true_eq]
  omega
theorem gcBits_any (n : Int) (w : World) : Calls Tryd.prog 29 #[.int .i64 n] w fun e w' => e = .returned (.bool (inB n 1 10)) ∧ w = w' := by
  go_enter Tryd.func29, Tryd.ntmps29
  go_wp2_with (go_at_call 14; refine (l1In_any _ _ _ _).mono ?_; rintro e w' ⟨rfl, rfl⟩)
  go_ret
  exact ⟨rfl, rfl⟩
theorem gcWords_any (n : Int) (v : Value) (xs : List Int) (w : World) (h : Sits w v xs) :
    Calls Tryd.prog 13 #[.int .i64 n, v] w fun e w' => e = .returned (.bool (wordsB n xs)) ∧ w = w' := by
  have h' := h
  obtain ⟨b, off, c, rfl, hc1, hm, _, _⟩ := h'
  have H := hid h
  clear h
  by_cases h1 : inB n 1 10 = true
  · by_cases h2 : xs.length ≤ 1100
    · rcases bits_cases h1 with rfl | rfl | rfl | rfl | rfl | rfl | rfl | rfl | rfl | rfl
      all_goals
        have HF := hid (wordsB_yes h1 h2)
        go_enter Tryd.func13, Tryd.ntmps13
        go_wp2_with (first | (go_at_call 29; refine (gcBits_any _ _).mono ?_; rintro e w' ⟨rfl, rfl⟩) | (go_at_call 30; refine (l1All_any _ xs _ _ _ H.out).mono ?_; rintro e w' ⟨rfl, rfl⟩) | fail)
        go_ret
        exact ⟨ret_bool HF.out.symm, rfl⟩
    · have HF : Hid (wordsB n xs = false) := by show wordsB n xs = _; simp [wordsB, h2]
      go_enter Tryd.func13, Tryd.ntmps13
      go_wp2_with (first | (go_at_call 29; refine (gcBits_any _ _).mono ?_; rintro e w' ⟨rfl, rfl⟩) | fail)
      go_ret
      exact ⟨ret_bool HF.out.symm, rfl⟩
  · have h1 : inB n 1 10 = false := by simpa using h1
    have HF : Hid (wordsB n xs = false) := by show wordsB n xs = _; simp [wordsB, h1]
    go_enter Tryd.func13, Tryd.ntmps13
    go_wp2_with (first | (go_at_call 29; refine (gcBits_any _ _).mono ?_; rintro e w' ⟨rfl, rfl⟩) | fail)
    go_ret
    exact ⟨ret_bool HF.out.symm, rfl⟩
theorem isBitCount_any (n : Int) (w : World) : Calls Tryd.prog 36 #[.int .i64 n] w fun e w' => e = .returned (.bool (inB n 1 10)) ∧ w = w' := by
  by_cases h1 : 1 ≤ n
  · by_cases h2 : n ≤ 10
    all_goals
      go_enter Tryd.func36, Tryd.ntmps36
      go_wp2
      go_ret
      exact ⟨by simp [inB]; omega, rfl⟩
  · go_enter Tryd.func36, Tryd.ntmps36
    go_wp2
    go_ret
    exact ⟨by simp [inB]; omega, rfl⟩
theorem areBitWords_any (n : Int) (v : Value) (xs : List Int) (w : World) (h : Sits w v xs) :
    Calls Tryd.prog 19 #[.int .i64 n, v] w fun e w' => e = .returned (.bool (wordsB n xs)) ∧ w = w' := by
  have h' := h
  obtain ⟨b, off, c, rfl, hc1, hm, _, _⟩ := h'
  have H := hid h
  clear h
  by_cases h1 : inB n 1 10 = true
  · by_cases h2 : xs.length ≤ 1100
    · rcases bits_cases h1 with rfl | rfl | rfl | rfl | rfl | rfl | rfl | rfl | rfl | rfl
      all_goals
        have HF := hid (wordsB_yes h1 h2)
        go_enter Tryd.func19, Tryd.ntmps19
        go_wp2_with (first | (go_at_call 36; refine (isBitCount_any _ _).mono ?_; rintro e w' ⟨rfl, rfl⟩) | (go_at_call 37; refine (areBelow_any _ xs _ _ H.out.reads).mono ?_; rintro e w' ⟨rfl, rfl⟩) | fail)
        go_ret
        exact ⟨ret_bool HF.out.symm, rfl⟩
    · have HF : Hid (wordsB n xs = false) := by show wordsB n xs = _; simp [wordsB, h2]
      go_enter Tryd.func19, Tryd.ntmps19
      go_wp2_with (first | (go_at_call 36; refine (isBitCount_any _ _).mono ?_; rintro e w' ⟨rfl, rfl⟩) | fail)
      go_ret
      exact ⟨ret_bool HF.out.symm, rfl⟩
  · have h1 : inB n 1 10 = false := by simpa using h1
    have HF : Hid (wordsB n xs = false) := by show wordsB n xs = _; simp [wordsB, h1]
    go_enter Tryd.func19, Tryd.ntmps19
    go_wp2_with (first | (go_at_call 36; refine (isBitCount_any _ _).mono ?_; rintro e w' ⟨rfl, rfl⟩) | fail)
    go_ret
    exact ⟨ret_bool HF.out.symm, rfl⟩
theorem wordsB_iff {n : Int} {xs : List Int} : wordsB n xs = true ↔ inB n 1 10 = true ∧ xs.length ≤ 1100 ∧ ∀ i, i < xs.length → wordB n (xs.getD i 0) = true := by
  simp [wordsB, allTo_iff, and_assoc]
theorem pow_nat {n : Int} (h : inB n 1 10 = true) : ∃ m : Nat, n = m ∧ 1 ≤ m ∧ m ≤ 10 := by
  have := inB_iff.1 h
  exact ⟨n.toNat, by omega, by omega, by omega⟩
theorem pow_int (m : Nat) : ((2 ^ m : Nat) : Int) = (2 : Int) ^ m := by simp
theorem pow_int_le {n : Int} (h : inB n 1 10 = true) : (2 : Int) ^ n.toNat ≤ 1024 := by
  obtain ⟨m, rfl, h1, h2⟩ := pow_nat h
  have := pow_le_1024 m (by omega)
  have h3 : ((2 ^ m : Nat) : Int) ≤ 1024 := by omega
  rw [pow_int] at h3
  simpa using h3
/-- a word of n bits is a natural number below 2 ^ n -/
theorem word_nat {n x : Int} (h : inB n 1 10 = true) (hx : wordB n x = true) : ∃ y : Nat, x = y ∧ y < 2 ^ n.toNat ∧ y < 1024 := by
  have h1 := inB_iff.1 hx
  have h2 := pow_int_le h
  refine ⟨x.toNat, by omega, ?_, by omega⟩
  have h3 : (x.toNat : Int) < ((2 ^ n.toNat : Nat) : Int) := by rw [pow_int]; omega
  exact_mod_cast h3
end Go.Proofs.YtijjdidljoicfaaDoor
