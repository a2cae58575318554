/- Contracts: both CombinationRank functions. Conditions: the slice reads as a list of at most 2^20 numbers. -/
import Derived.Test.YtkphbelgamfmnaaCRankM
namespace Go.Proofs.Ytkphbelgamfmnaa
open Go.RowKit
set_option linter.unusedVariables false

def crRes (n : Int) (xs : List Int) : Int := if combB n xs = true then (rankC n.toNat 0 xs : Int) else 0
theorem crRes_yes {n : Int} {xs : List Int} (h : combB n xs = true) : crRes n xs = rankC n.toNat 0 xs := by unfold crRes; rw [if_pos h]
theorem crRes_no {n : Int} {xs : List Int} (h : combB n xs = false) : crRes n xs = 0 := by unfold crRes; rw [if_neg (by rw [h]; simp)]
theorem ret_nb5 {n n' : Int} {b b' : Bool} (hn : n = n') (h : b = b') : Ending.returned (.tuple #[.int .i64 n, .bool b]) = .returned (.tuple #[.int .i64 n', .bool b']) := by rw [h, hn]

/-- how far the outer loop of the rank has come -/
def CrInv (N : Nat) (xs : List Int) (i rank least : Nat) : Prop := rank + rankC N least (xs.drop i) = rankC N 0 xs ∧ RF N least (xs.drop i)
theorem CrInv.step {N : Nat} {xs : List Int} {i rank least : Nat} (h : CrInv N xs i rank least) (hi : i < xs.length) :
    ∃ m : Nat, xs[i] = ((least + m : Nat) : Int) ∧ least + m < N ∧ rank + sumB N (xs.length - 1 - i) least m ≤ rankC N 0 xs ∧ CrInv N xs (i + 1) (rank + sumB N (xs.length - 1 - i) least m) (least + m + 1) := by
  obtain ⟨h1, h2⟩ := h
  rw [List.drop_eq_getElem_cons hi] at h1 h2
  obtain ⟨a1, a2, a3⟩ := h2
  obtain ⟨m, hm⟩ : ∃ m, xs[i].toNat = least + m := ⟨xs[i].toNat - least, by omega⟩
  have hx : xs[i] = ((least + m : Nat) : Int) := by omega
  rw [rankC, hm, List.length_drop, show least + m - least = m by omega, show xs.length - (i + 1) = xs.length - 1 - i by omega] at h1
  rw [hm] at a3
  exact ⟨m, hx, by omega, by omega, by omega, a3⟩
end Go.Proofs.Ytkphbelgamfmnaa
