/- Contracts: spec.RevolvingAt, RevolvingRank, NextRevolving and RevolvingList. Conditions: none; the slice reads as a list. -/
import Derived.Test.YtijjdidljoicfabRevM
namespace Go.Proofs.Ytijjdidljoicfab
open Go.RowKit
set_option linter.unusedVariables false

theorem revL_lens {n k : Nat} (hn : n ≤ 12) (hk : k ≤ n) : (revL n k).length ≤ 100000 ∧ ∀ l ∈ revL n k, l.length ≤ 12 :=
  ⟨Nat.le_trans (revL_bound n k) (Nat.le_trans (pow12_le hn) (by omega)), fun l hl => by rw [revL_elem n k hk l hl]; omega⟩
theorem ret_sb2 {u : Value} {b b' : Bool} (h : b = b') : Ending.returned (.tuple #[u, .bool b]) = .returned (.tuple #[u, .bool b']) := by rw [h]
theorem ret_nb2 {a b : Int} {c d : Bool} (h : a = b) (h' : c = d) : Ending.returned (.tuple #[.int .i64 a, .bool c]) = .returned (.tuple #[.int .i64 b, .bool d]) := by rw [h, h']
theorem ofRes_len {L : List (List Int)} {i : Int} (h : ∀ l ∈ L, l.length ≤ 12) : (ofRes L i).length ≤ 12 := by
  unfold ofRes; split
  · rw [List.getD_eq_getElem?_getD]
    by_cases hi : i.toNat < L.length
    · rw [List.getElem?_eq_getElem hi]; exact h _ (List.getElem_mem _)
    · rw [List.getElem?_eq_none (by omega)]; simp
  · simp
/-- RevolvingAt -/
def raB (n k r : Int) : Bool := szB n k && ofB (revL n.toNat k.toNat) r
def raRes (n k r : Int) : List Int := if szB n k = true then ofRes (revL n.toNat k.toNat) r else []
theorem bound_RevolvingAt (n k r : Int) : (raRes n k r).length ≤ 1048576 := by
  unfold raRes; split
  · rename_i h
    obtain ⟨N, K, rfl, rfl, hN, hK⟩ := szB_nat h
    have := ofRes_len (i := r) (revL_lens hN hK).2
    rw [Int.toNat_natCast, Int.toNat_natCast]; omega
  · simp
/-- RevolvingRank -/
def rrV (n : Int) (xs : List Int) : Int := if combB n xs = true then placeIn xs (revL n.toNat xs.length) else 0
theorem comb_nat {n : Int} {xs : List Int} (h : combB n xs = true) : ∃ N : Nat, n = (N : Int) ∧ N ≤ 12 ∧ xs.length ≤ N := by
  have h1 := combB_elem h
  simp only [combB, Bool.and_eq_true, decide_eq_true_eq] at h
  exact ⟨n.toNat, by omega, by omega, by omega⟩
/-- NextRevolving -/
def nrvB (n : Int) (xs : List Int) : Bool := combB n xs && ofB (revL n.toNat xs.length) (placeIn xs (revL n.toNat xs.length) + 1)
def nrvRes (n : Int) (xs : List Int) : List Int := if combB n xs = true then ofRes (revL n.toNat xs.length) (placeIn xs (revL n.toNat xs.length) + 1) else []
theorem placeIn_le (l : List Int) : ∀ L : List (List Int), -1 ≤ placeIn l L ∧ placeIn l L < (L.length : Int)
  | [] => by simp [placeIn]
  | x :: r => by
    have := placeIn_le l r
    rw [placeIn, List.length_cons]
    split
    · omega
    · split <;> omega
theorem bound_NextRevolving (n : Int) (xs : List Int) : (nrvRes n xs).length ≤ 1048576 := by
  unfold nrvRes; split
  · rename_i h
    obtain ⟨N, rfl, hN, hK⟩ := comb_nat h
    have := ofRes_len (i := placeIn xs (revL N xs.length) + 1) (revL_lens hN hK).2
    rw [Int.toNat_natCast]; omega
  · simp
/-- RevolvingList -/
def rvlRes (n k : Int) : List (List Int) := if szB n k = true then revL n.toNat k.toNat else []
end Go.Proofs.Ytijjdidljoicfab
