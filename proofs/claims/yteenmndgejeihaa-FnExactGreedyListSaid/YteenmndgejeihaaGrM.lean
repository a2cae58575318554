/- Plain facts: which ranks are met; the first move to a new permutation. No conditions. -/
import Derived.Test.YteenmndgejeihaaBs3
import Derived.Test.YteenmndgejeihaaMvI5
import Derived.Test.YteenmndgejeihaaRowsU
namespace Go.Proofs.Yteenmndgejeihaa
open Go.RowKit
set_option linter.unusedVariables false

theorem grown_below {w w1 w' : World} {row : Option Nat} (h : w.grownBy w1 row) (hb : Below w1.heap.size w1 w') : w.grownBy w' row :=
  ⟨hb.os.trans h.os, hb.tape.trans h.tape, hb.output.trans h.output, Nat.le_trans h.size hb.size, fun k hk hn => (hb.block k (Nat.lt_of_lt_of_le hk h.size)).trans (h.block k hk hn)⟩
theorem below_grown {w w1 w' : World} {row : Option Nat} (hb : Below w.heap.size w w1) (h : w1.grownBy w' row) : w.grownBy w' row :=
  ⟨h.os.trans hb.os, h.tape.trans hb.tape, h.output.trans hb.output, Nat.le_trans hb.size h.size, fun k hk hn => (h.block k (Nat.lt_of_lt_of_le hk hb.size) hn).trans (hb.block k hk)⟩
/-- whether the rank r is that of one of D -/
def metB (D : List (List Int)) (r : Nat) : Bool := D.any (fun d => rankR d == r)
abbrev metF (D : List (List Int)) (r : Nat) : Value := .bool (metB D r)
theorem metB_nil (r : Nat) : metB [] r = false := rfl
theorem metB_push (D : List (List Int)) (x : List Int) (r : Nat) : metB (D ++ [x]) r = if r = rankR x then true else metB D r := by
  unfold metB
  rw [List.any_append]
  by_cases h : r = rankR x
  · rw [if_pos h]; simp [h]
  · rw [if_neg h]
    have : (rankR x == r) = false := by simp; omega
    simp [this]
theorem metB_iff {N : Nat} {D : List (List Int)} {y : List Int} (hD : ∀ d ∈ D, PN N d) (hy : PN N y) : metB D (rankR y) = true ↔ y ∈ D := by
  unfold metB
  rw [List.any_eq_true]
  constructor
  · rintro ⟨d, hd, he⟩
    have : rankR d = rankR y := by simpa using he
    rw [← rk_inj (hD d hd) hy this]
    exact hd
  · intro h
    exact ⟨y, h, by simp⟩
theorem lastL_snoc (D : List (List Int)) (x : List Int) : lastL (D ++ [x]) = x := by
  rw [lastL_at (j := D.length) (by simp)]
  simp
theorem nwAt_met {N : Nat} {D : List (List Int)} {x : List Int} {ms : List Mv} {t : Nat} (h : GI N (D ++ [x])) (hm : mvAt N ms t = true) : nwAt (D ++ [x]) ms t = !(metB (D ++ [x]) (rankR (mvM (mGet ms t) x))) := by
  have hx : PN N x := h.2.2 x (by simp)
  rw [nwAt, lastL_snoc, Bool.eq_iff_iff, decide_eq_true_eq, plc_neg, Bool.not_eq_true', ← Bool.not_eq_true, metB_iff h.2.2 (mvM_PN hx hm)]
/-- how a greedy list goes on from D ++ [x] -/
theorem gr_end {ms : List Mv} {E : List (List Int)} {f : Nat} (h : nwI E ms < 0) : grRun ms f E = E := grRun_end h f
end Go.Proofs.Yteenmndgejeihaa
