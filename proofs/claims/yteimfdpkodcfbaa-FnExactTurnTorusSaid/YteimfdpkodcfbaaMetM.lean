/- Plain facts: when a word has each window of a layout once. No conditions. -/
import Derived.Test.YteimfdpkodcfbaaMx
import Derived.Test.YteimfdpkodcfbaaMet
namespace Go.Proofs.Yteimfdpkodcfbaa
set_option linter.unusedVariables false

/-- the rank of the window with an index -/
def rkT (rk : List Int → Int) (PL : List (List Int)) (ws : List Int) (i : Nat) : Int := rk (pkL ws (PL.getD i []))
/-- the window with the index i has a rank, and none before it has the same -/
def newW (rk : List Int → Int) (ok : List Int → Bool) (PL : List (List Int)) (ws : List Int) (i : Nat) : Bool := !metW (rkT rk PL ws) i (rkT rk PL ws i) && ok (pkL ws (PL.getD i []))
/-- no window comes again, and each has a rank -/
def lyB (rk : List Int → Int) (ok : List Int → Bool) (PL : List (List Int)) (ws : List Int) : Bool := allTo PL.length (newW rk ok PL ws)
/-- places within a word of n numbers, at least one -/
structure Placed (n : Nat) (l : List Int) : Prop where
  one : 1 ≤ l.length
  len : l.length ≤ 200
  within : ∀ p ∈ l, ∃ q : Nat, p = (q : Int) ∧ q < n
theorem mxT_in {n : Nat} {l : List Int} (h : ∀ p ∈ l, ∃ q : Nat, p = (q : Int) ∧ q < n) : ∀ j, j < l.length → ∃ q : Nat, mxT l j = (q : Int) ∧ q < n
  | 0, hj => by
    rw [mxT, getD_at hj]
    exact h _ (List.getElem_mem hj)
  | j + 1, hj => by
    rw [mxT]
    split
    · rw [getD_at hj]; exact h _ (List.getElem_mem hj)
    · exact mxT_in h j (by omega)
theorem Placed.last {n : Nat} {l : List Int} (h : Placed n l) : ∃ q : Nat, mxT l (l.length - 1) = (q : Int) ∧ q < n := mxT_in h.within _ (by have := h.one; omega)
theorem once_apart {rk : List Int → Int} {ok : List Int → Bool} {PL : List (List Int)} {ws : List Int} {k : Nat} (h : allTo k (newW rk ok PL ws) = true) : ∀ a b, a < b → b < k → rkT rk PL ws a ≠ rkT rk PL ws b := by
  intro a b hab hbk e
  have h1 := (allTo_iff _ _).1 h b hbk
  unfold newW at h1
  rw [Bool.and_eq_true, Bool.not_eq_true'] at h1
  have h2 : metW (rkT rk PL ws) b (rkT rk PL ws b) = true := metW_iff.2 ⟨a, hab, e⟩
  rw [h1.1] at h2
  simp at h2
end Go.Proofs.Yteimfdpkodcfbaa
