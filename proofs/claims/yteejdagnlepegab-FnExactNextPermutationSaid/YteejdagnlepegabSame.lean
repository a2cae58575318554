/- Contracts: l1Same and raPlace. Conditions: the slices read as lists. -/
import Derived.Test.YteejdagnlepegabLists
import Derived.Deep.QuietTactic
import Derived.BigQuiet
namespace Go.Proofs.Yteejdagnlepegab
open Go.RowKit
set_option linter.unusedVariables false

/-- the index of a list in a list of lists, or -1 -/
def placeIn (l : List Int) : List (List Int) → Int
  | [] => -1
  | x :: r => if x = l then 0 else (if placeIn l r < 0 then -1 else placeIn l r + 1)
theorem placeIn_found (l : List Int) : ∀ (L : List (List Int)) (k : Nat) (h : k < L.length), (∀ j (hj : j < k), L[j] ≠ l) → L[k] = l → placeIn l L = k
  | x :: r, 0, _, _, h => by rw [placeIn, if_pos (by simpa using h)]; rfl
  | x :: r, k + 1, hk, hno, h => by
    have h0 : ¬ x = l := by simpa using hno 0 (by omega)
    have ih := placeIn_found l r k (by simpa using hk) (fun j hj => by simpa using hno (j + 1) (by omega)) (by simpa using h)
    rw [placeIn, if_neg h0, ih, if_neg (by omega)]
    rfl
theorem placeIn_none (l : List Int) : ∀ (L : List (List Int)), (∀ j (hj : j < L.length), L[j] ≠ l) → placeIn l L = -1
  | [], _ => rfl
  | x :: r, hno => by
    have h0 : ¬ x = l := hno 0 (by simp)
    have ih := placeIn_none l r (fun j hj => hno (j + 1) (by simpa using hj))
    rw [placeIn, if_neg h0, ih, if_pos (by omega)]
end Go.Proofs.Yteejdagnlepegab
