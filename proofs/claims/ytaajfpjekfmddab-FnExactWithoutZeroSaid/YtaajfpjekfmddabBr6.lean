/- Contracts: brKind, bruijnLength. No conditions. -/
import Derived.Test.YtaajfpjekfmddabBrM
import Derived.Test.YtaajfpjekfmddabLc1
import Derived.Test.YtaajfpjekfmddabKind
namespace Go.Proofs.Ytaajfpjekfmddab
open Go.RowKit
set_option linter.unusedVariables false
set_option maxRecDepth 4000

/-- there may be de Bruijn words of n over k letters -/
def bruB (n k : Int) : Bool := inB n 1 10 && (inB k 2 6 && decide (pwI k.toNat n.toNat ≤ 1024))
theorem pwI_pow (k n : Nat) : pwI k n = ((k ^ n : Nat) : Int) := by
  induction n with
  | zero => rfl
  | succ n ih => rw [pwI, ih, Nat.pow_succ]; simp
theorem bruB_nat {n k : Int} (h : bruB n k = true) : ∃ a b : Nat, n = (a : Int) ∧ k = (b : Int) ∧ 1 ≤ a ∧ a < 11 ∧ 2 ≤ b ∧ b < 7 ∧ b ^ a ≤ 1024 := by
  simp only [bruB, Bool.and_eq_true, inB_iff, decide_eq_true_eq, pwI_pow] at h
  exact ⟨n.toNat, k.toNat, by omega, by omega, by omega, by omega, by omega, by omega, by omega⟩
theorem bruB_0 {n k : Int} (h : inB n 1 10 = false) : bruB n k = false := by unfold bruB; rw [h]; rfl
theorem bruB_1 {n k : Int} (h : inB k 2 6 = false) : bruB n k = false := by unfold bruB; rw [h, Bool.false_and, Bool.and_false]
theorem bruB_2 {n k : Int} (h : inB n 1 10 = true) (h1 : inB k 2 6 = true) : bruB n k = decide (pwI k.toNat n.toNat ≤ 1024) := by unfold bruB; rw [h, h1]; rfl
theorem brKind_any (n k : Int) (w : World) : Calls Try.prog 40 #[.int .i64 n, .int .i64 k] w fun e w' => e = .returned (.bool (bruB n k)) ∧ w = w' := by
  cases h1 : inB n 1 10 with
  | false =>
    have HF := hid (bruB_0 (k := k) h1)
    go_enter Try.func40, Try.ntmps40
    go_wp2_with (first | (go_at_call 70; (refine (l1In_any _ _ _ _).mono ?_); (rintro e w' ⟨rfl, rfl⟩); (rw [h1])) | fail)
    go_ret
    exact ⟨ret_bool HF.out.symm, rfl⟩
  | true =>
    cases h2 : inB k 2 6 with
    | false =>
      have HF := hid (bruB_1 (n := n) h2)
      go_enter Try.func40, Try.ntmps40
      go_wp2_with (first
        | (go_at_call 70; (have HX := HF1); (refine (l1In_any _ _ _ _).mono ?_); (rintro e w' ⟨rfl, rfl⟩); (rw [h2]))
        | (go_at_call 70; (refine (l1In_any _ _ _ _).mono ?_); (rintro e w' ⟨rfl, rfl⟩); (rw [h1]); (have HF1 := hid trivial))
        | fail)
      go_ret
      exact ⟨ret_bool HF.out.symm, rfl⟩
    | true =>
      have HF := hid (bruB_2 h1 h2)
      have hn := inB_iff.1 h1
      have hk := inB_iff.1 h2
      obtain ⟨a, rfl⟩ : ∃ a : Nat, n = (a : Int) := ⟨n.toNat, by omega⟩
      obtain ⟨b, rfl⟩ : ∃ b : Nat, k = (b : Int) := ⟨k.toNat, by omega⟩
      rw [Int.toNat_natCast, Int.toNat_natCast] at HF
      obtain ⟨P, hP⟩ : ∃ P, P = pwI b a := ⟨_, rfl⟩
      have HP := hid hP.symm
      rw [← hP] at HF
      clear hP
      go_enter Try.func40, Try.ntmps40
      go_wp2_with (first
        | (go_at_call 70; (have HX := HF1); (refine (l1In_any _ _ _ _).mono ?_); (rintro e w' ⟨rfl, rfl⟩); (rw [h2]))
        | (go_at_call 70; (refine (l1In_any _ _ _ _).mono ?_); (rintro e w' ⟨rfl, rfl⟩); (rw [h1]); (have HF1 := hid trivial))
        | (go_at_call 41; (refine (lyPower_any b a _ (by omega) (by omega)).mono ?_); (rintro e w' ⟨rfl, rfl⟩); (rw [HP.out]))
        | fail)
      go_ret
      exact ⟨ret_bool HF.out.symm, rfl⟩
/-- a number beside false -/
def NoLen (e : Ending) : Prop := ∃ L, e = .returned (.tuple #[.int .i64 L, .bool false])
theorem bruijnLength_yes (n k : Nat) (w : World) (h : bruB n k = true) : Calls Try.prog 42 #[.int .i64 (n : Int), .int .i64 (k : Int)] w fun e w' => e = .returned (.tuple #[.int .i64 (k ^ n : Nat), .bool true]) ∧ w = w' := by
  obtain ⟨a, b, e1, e2, h1, h2, h3, h4, h5⟩ := bruB_nat h
  obtain rfl : n = a := by omega
  obtain rfl : k = b := by omega
  obtain ⟨P, hP⟩ : ∃ P, P = k ^ n := ⟨_, rfl⟩
  have HP := hid (show pwI k n = (P : Int) by rw [pwI_pow, hP])
  rw [← hP] at h5 ⊢
  clear hP e1 e2 h
  have q1 : (1 : Int) ≤ (n : Int) := by omega
  have q2 : (n : Int) ≤ 10 := by omega
  have q3 : (2 : Int) ≤ (k : Int) := by omega
  have q4 : (k : Int) ≤ 6 := by omega
  have q5 : (P : Int) ≤ 1024 := by omega
  go_enter Try.func42, Try.ntmps42
  go_wp2_with (first | (go_at_call 49; (refine (powerOf_any k n _ (by omega) (by omega)).mono ?_); (rintro e w' ⟨rfl, rfl⟩); (rw [HP.out])) | fail)
  go_ret2
  exact ⟨rfl, rfl⟩
theorem bruijnLength_no (n k : Int) (w : World) (h : bruB n k = false) : Calls Try.prog 42 #[.int .i64 n, .int .i64 k] w fun e w' => NoLen e ∧ w = w' := by
  by_cases h1 : n < 1
  · go_enter Try.func42, Try.ntmps42
    go_wp2_with fail
    go_ret2
    exact ⟨⟨_, rfl⟩, rfl⟩
  · by_cases h2 : 10 < n
    · go_enter Try.func42, Try.ntmps42
      go_wp2_with fail
      go_ret2
      exact ⟨⟨_, rfl⟩, rfl⟩
    · by_cases h3 : k < 2
      · go_enter Try.func42, Try.ntmps42
        go_wp2_with fail
        go_ret2
        exact ⟨⟨_, rfl⟩, rfl⟩
      · by_cases h4 : 6 < k
        · go_enter Try.func42, Try.ntmps42
          go_wp2_with fail
          go_ret2
          exact ⟨⟨_, rfl⟩, rfl⟩
        · obtain ⟨a, rfl⟩ : ∃ a : Nat, n = (a : Int) := ⟨n.toNat, by omega⟩
          obtain ⟨b, rfl⟩ : ∃ b : Nat, k = (b : Int) := ⟨k.toNat, by omega⟩
          rw [bruB_2 (inB_iff.2 (by omega)) (inB_iff.2 (by omega)), decide_eq_false_iff_not, Int.toNat_natCast, Int.toNat_natCast] at h
          obtain ⟨P, hP⟩ : ∃ P, P = pwI b a := ⟨_, rfl⟩
          have HP := hid hP.symm
          rw [← hP] at h
          clear hP
          go_enter Try.func42, Try.ntmps42
          go_wp2_with (first | (go_at_call 49; (refine (powerOf_any b a _ (by omega) (by omega)).mono ?_); (rintro e w' ⟨rfl, rfl⟩); (rw [HP.out])) | fail)
          go_ret2
          have hd : decide (P ≤ 1024) = false := decide_eq_false (by omega)
          exact ⟨⟨P, by rw [hd]; rfl⟩, rfl⟩
end Go.Proofs.Ytaajfpjekfmddab
