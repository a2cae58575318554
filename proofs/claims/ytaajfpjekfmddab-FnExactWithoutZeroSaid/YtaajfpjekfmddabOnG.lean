/- Plain facts: rows whose ranks come once, for any rank function that may fail. No conditions. -/
import Derived.Test.YtaajfpjekfmddabSSL
namespace Go.Proofs.Ytaajfpjekfmddab
open Go.RowKit
set_option linter.unusedVariables false

/-- r is the number of one of the first k lists -/
def metG (f : Nat → Int) (k : Nat) (r : Int) : Bool := !(allTo k (fun j => !(f j == r)))
theorem metG_zero (f : Nat → Int) (r : Int) : metG f 0 r = false := rfl
theorem metG_iff {f : Nat → Int} {k : Nat} {r : Int} : metG f k r = true ↔ ∃ j, j < k ∧ f j = r := by
  unfold metG
  cases h : allTo k (fun j => !(f j == r)) with
  | true =>
    rw [allTo_iff] at h
    exact ⟨fun e => by simp at e, fun ⟨j, hj, e⟩ => by have := h j hj; simp [e] at this⟩
  | false =>
    refine ⟨fun _ => ?_, fun _ => rfl⟩
    apply Classical.byContradiction
    intro hn
    have : allTo k (fun j => !(f j == r)) = true := (allTo_iff _ _).2 (fun j hj => by
      have : f j ≠ r := fun e => hn ⟨j, hj, e⟩
      simpa using this)
    rw [h] at this; cases this
theorem metG_step (f : Nat → Int) (k : Nat) (r : Int) : metG f (k + 1) r = (metG f k r || f k == r) := by
  unfold metG; rw [allTo_succ]; cases allTo k (fun j => !(f j == r)) <;> cases (f k == r) <;> rfl
def onG (rk : List Int → Int) (ok : List Int → Bool) (L : List (List Int)) (j : Nat) : Bool := ok (L.getD j []) && !(metG (fun i => rk (L.getD i [])) j (rk (L.getD j [])))
def onA (rk : List Int → Int) (ok : List Int → Bool) (count : Nat) (L : List (List Int)) : Bool := decide (L.length = count) && allTo L.length (onG rk ok L)
theorem onG_bad {rk : List Int → Int} {ok : List Int → Bool} {L : List (List Int)} {j : Nat} {l : List Int} (e : L.getD j [] = l) (h : ok l = false) : onG rk ok L j = false := by rw [onG, e, h]; rfl
theorem onG_met {rk : List Int → Int} {ok : List Int → Bool} {L : List (List Int)} {j : Nat} {l : List Int} {r : Int} (e : L.getD j [] = l) (hr : rk l = r) (h : metG (fun i => rk (L.getD i [])) j r = true) : onG rk ok L j = false := by
  rw [onG, e, hr, h, Bool.not_true, Bool.and_false]
theorem onG_new {rk : List Int → Int} {ok : List Int → Bool} {L : List (List Int)} {j : Nat} {l : List Int} {r : Int} (e : L.getD j [] = l) (ho : ok l = true) (hr : rk l = r) (h : metG (fun i => rk (L.getD i [])) j r = false) : onG rk ok L j = true := by
  rw [onG, e, hr, h, ho]; rfl
theorem metG_succ {rk : List Int → Int} {L : List (List Int)} {j : Nat} {l : List Int} {r : Nat} (e : L.getD j [] = l) (hr : rk l = (r : Int)) (y : Nat) :
    metG (fun i => rk (L.getD i [])) (j + 1) (y : Int) = if y = r then true else metG (fun i => rk (L.getD i [])) j (y : Int) := by
  rw [metG_step]
  simp only [e, hr]
  by_cases h : y = r
  · subst h; simp
  · have : ((r : Int) == (y : Int)) = false := by simp; omega
    rw [this, Bool.or_false, if_neg h]
theorem cell_keptG {w w' : World} {p : Addr} {x : Value} (h : w.cell? p = some x) (hb : Below w.heap.size w w') : w'.cell? p = some x := (hb.cell (World.block_lt_of_cell? w p h)).trans h
end Go.Proofs.Ytaajfpjekfmddab
