/- Contracts: lyKind, isWordLength, isLetterCount. No conditions. -/
import Derived.Test.YteimfdpkodcfbaaLy1
namespace Go.Proofs.Yteimfdpkodcfbaa
open Go.RowKit
set_option linter.unusedVariables false
set_option maxRecDepth 4000

def kindB (n k : Int) : Bool := inB n 1 12 && inB k 1 6
theorem kindB_iff {n k : Int} : kindB n k = true ↔ (1 ≤ n ∧ n ≤ 12) ∧ (1 ≤ k ∧ k ≤ 6) := by simp only [kindB, Bool.and_eq_true, inB_iff]
theorem kindB_nat {n k : Int} (h : kindB n k = true) : ∃ a b : Nat, n = (a : Int) ∧ k = (b : Int) ∧ 1 ≤ a ∧ a < 13 ∧ 1 ≤ b ∧ b < 7 := by
  have := kindB_iff.1 h
  exact ⟨n.toNat, k.toNat, by omega, by omega, by omega, by omega, by omega, by omega⟩
/-- what a function answers at numbers that are no length and no number of letters: d -/
def atK {T : Type} (n k : Int) (d r : T) : T := if kindB n k = true then r else d
theorem atK_yes {T : Type} {n k : Int} {d r : T} (h : kindB n k = true) : atK n k d r = r := by unfold atK; rw [if_pos h]
theorem atK_no {T : Type} {n k : Int} {d r : T} (h : kindB n k = false) : atK n k d r = d := by unfold atK; rw [if_neg (by rw [h]; simp)]
theorem isLetterCount_any (n : Int) (w : World) : Calls Try.prog 125 #[.int .i64 n] w fun e w' => e = .returned (.bool (inB n 1 6)) ∧ w = w' := by
  by_cases h1 : 1 ≤ n
  · by_cases h2 : n ≤ 6
    all_goals
      go_enter Try.func125, Try.ntmps125
      go_wp2
      go_ret
      exact ⟨by simp [inB]; omega, rfl⟩
  · go_enter Try.func125, Try.ntmps125
    go_wp2
    go_ret
    exact ⟨by simp [inB]; omega, rfl⟩
end Go.Proofs.Yteimfdpkodcfbaa
