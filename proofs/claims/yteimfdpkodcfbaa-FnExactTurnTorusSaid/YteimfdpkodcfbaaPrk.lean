/- Contracts: permutationRank, impl.PermutationRank (stage 4). Conditions: the slice is not nil and reads as a list (of at most 12 numbers; of at most 2^20). -/
import Derived.Test.YteimfdpkodcfbaaRank2
import Derived.Handy
namespace Go.Proofs.Yteimfdpkodcfbaa
open Go.RowKit
set_option linter.unusedVariables false
set_option maxRecDepth 4000

theorem permutationRank_any (v : Value) (xs : List Int) (w : World) (h : Sits w v xs) (h12 : xs.length ≤ 12) :
    Calls Try.prog 145 #[v] w fun e w' => e = .returned (.int .i64 (rankR xs : Int)) ∧ w = w' := by
  obtain ⟨b, off, c, rfl, hc1, hm, hb, hcW⟩ := h
  have HC := hid hcW
  clear hcW
  go_enter Try.func145, Try.ntmps145
  go_wp2_with fail

  go_loop [3, 8] (fun n i => ∃ k : Nat, k ≤ xs.length ∧ i = .int .i64 k ∧ n = .int .i64 (hornerTo xs k)) (fun _ i => xs.length - (intOf i).toNat)
  case atStart => exact ⟨0, Nat.zero_le _, rfl, rfl⟩
  case round =>
    obtain ⟨k, hk, rfl, rfl⟩ := hrel
    have hh := horner_le k hk h12
    by_cases hlt : k < xs.length
    · have hcx := HC.out k hlt
      have hh2 := horner_le (k + 1) hlt h12
      have HH := hid (show hornerTo xs (k + 1) = hornerTo xs k * (xs.length - k) + countLt (xs.drop (k + 1)) xs[k] by rw [hornerTo, getD_at hlt])
      rw [HH.out] at hh2
      have hcl := countLt_le (xs.drop (k + 1)) xs[k]
      have hdl : (xs.drop (k + 1)).length ≤ 12 := by rw [List.length_drop]; omega
      have e3 : ((xs.length - k : Nat) : Int) = (xs.length : Int) - k := by omega
      have m1 : (hornerTo xs k : Int) * ((xs.length : Int) - k) ≤ 479001600 := by
        rw [← e3]; exact cast_mul_le (c := 479001600) (by omega)
      have m0 : 0 ≤ (hornerTo xs k : Int) * ((xs.length : Int) - k) := Int.mul_nonneg (by omega) (by omega)
      obtain ⟨C, hC⟩ : ∃ C, C = countLt (xs.drop (k + 1)) xs[k] := ⟨_, rfl⟩
      rw [← hC] at hcl hh2
      have HCC := hid hC
      have hc12 : C ≤ 12 := by omega
      have E3 := hid e3
      clear hC hh2 e3 hcl hdl
      by_cases hcap : c = k + 1
      · have hS : Sits w (.slice (some ⟨b, off, none⟩) 0 0) (xs.drop (k + 1)) := by
          rw [List.drop_eq_nil_of_le (by omega)]
          exact ⟨b, off, 0, rfl, Nat.le_refl _, by omega, hb, fun i hi => absurd hi (by simp)⟩
        have HSS := hid hS
        subst hcap
        clear hS
        go_wp2_with (go_at_call 166; refine (countRelated_lt _ (xs.drop (k + 1)) _ _ HSS.out).mono ?_; rintro e w' ⟨rfl, rfl⟩; rw [← HCC.out])
        go_round
        case rel => exact ⟨k + 1, by omega, by go_num, by rw [HH.out, Int.natCast_add, Int.natCast_mul, E3.out, ← HCC.out]⟩
        case measure => simp [intOf]; omega
      · have hS : Sits w (.slice (some ⟨b, off + (k + 1), none⟩) (xs.length - (k + 1)) (c - (k + 1))) (xs.drop (k + 1)) :=
          Sits_drop (k + 1) (by omega) hc1 hm hb HC.out
        have HSS := hid hS
        clear hS
        go_wp2_with (go_at_call 166; refine (countRelated_lt _ (xs.drop (k + 1)) _ _ HSS.out).mono ?_; rintro e w' ⟨rfl, rfl⟩; rw [← HCC.out])
        go_round
        case rel => exact ⟨k + 1, by omega, by go_num, by rw [HH.out, Int.natCast_add, Int.natCast_mul, E3.out, ← HCC.out]⟩
        case measure => simp [intOf]; omega
    · obtain rfl : k = xs.length := by omega
      have HE := hid (horner_end xs)
      go_wp2_with fail
      go_ret
      exact ⟨ret_int (by rw [HE.out]), rfl⟩
end Go.Proofs.Yteimfdpkodcfbaa
