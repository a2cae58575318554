/- Contracts: eqIntSS, heldIntSS. Conditions: the slices read as lists of lists. -/
import Derived.Test.YtkphbelgamfmnaaLists
import Derived.Test.YtkphbelgamfmnaaIntS
import Derived.Deep.RegionHeld3
namespace Go.Proofs.Ytkphbelgamfmnaa
open Go.RowKit
set_option linter.unusedVariables false

/-- how many numbers there are in the first k lists -/
def preLen (L : List (List Int)) : Nat → Nat
  | 0 => 0
  | k + 1 => preLen L k + (L.getD k []).length
theorem preLen_mono (L : List (List Int)) {a b : Nat} (h : a ≤ b) : preLen L a ≤ preLen L b := by
  induction b with
  | zero => rw [show a = 0 by omega]; exact Nat.le_refl _
  | succ b ih =>
    by_cases e : a = b + 1
    · rw [e]; exact Nat.le_refl _
    · have := ih (by omega)
      rw [preLen]; omega
/-- each number is marked, from m on -/
def Marked (m : Int) (L : List (List Int)) : Prop := ∀ i (h : i < L.length), L[i] = marks (m + preLen L i) L[i].length
end Go.Proofs.Ytkphbelgamfmnaa
