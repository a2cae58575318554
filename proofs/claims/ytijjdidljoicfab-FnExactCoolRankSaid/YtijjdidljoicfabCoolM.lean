/- Plain facts: the list by cool steps ends. No conditions. -/
import Derived.Test.YtijjdidljoicfabCh6
namespace Go.Proofs.Ytijjdidljoicfab
set_option linter.unusedVariables false

/-- the bits with which the list begins -/
def coolF (n k : Nat) : List Int := bitsL n (upTo k)
/-- does it come back to f within m steps behind x -/
def coolStop (f : List Int) : Nat → List Int → Bool
  | 0, x => decide (x = f)
  | m + 1, x => decide (x = f) || coolStop f m (coolL x)
def coolRun (f : List Int) : Nat → List Int → List (List Int)
  | 0, _ => []
  | m + 1, x => if x = f then [] else x :: coolRun f m (coolL x)
def coolS (n k : Nat) : List (List Int) := coolF n k :: coolRun (coolF n k) 1000 (coolL (coolF n k))
set_option maxRecDepth 1000000 in
theorem cool_ends : ∀ n, n < 13 → ∀ k, k < n + 1 → coolStop (coolF n k) 1000 (coolL (coolF n k)) = true := by decide +kernel
theorem coolRun_length (f : List Int) : ∀ m x, (coolRun f m x).length ≤ m
  | 0, _ => by simp [coolRun]
  | m + 1, x => by
    rw [coolRun]; split
    · simp
    · have := coolRun_length f m (coolL x); simp; omega
theorem coolRun_elem {f : List Int} {n : Nat} : ∀ m x, x.length = n → ∀ l ∈ coolRun f m x, l.length = n
  | 0, _, _, l, h => by simp [coolRun] at h
  | m + 1, x, hx, l, h => by
    rw [coolRun] at h
    split at h
    · simp at h
    · rcases List.mem_cons.1 h with rfl | h
      · exact hx
      · exact coolRun_elem m (coolL x) (by rw [coolL_length]; exact hx) l h
end Go.Proofs.Ytijjdidljoicfab
