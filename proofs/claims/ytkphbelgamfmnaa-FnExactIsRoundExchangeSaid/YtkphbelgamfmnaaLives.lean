/- Owned rows with bounds on their block numbers, for laws that write marks into results; counting lemmas. No conditions. -/
import Derived.Test.YtkphbelgamfmnaaIntS
namespace Go.Proofs.Ytkphbelgamfmnaa
open Go.RowKit
set_option linter.unusedVariables false

/-- v owns a row that reads as xs, in a block from lo on and below hi. -/
def Lives (w : World) (lo hi : Nat) (v : Value) (xs : List Int) : Prop := Own w lo v xs ∧ ∀ k, v.ownBlock = some k → k < hi

theorem Own.lives {w : World} {lo : Nat} {v : Value} {xs : List Int} (h : Own w lo v xs) : Lives w lo w.heap.size v xs :=
  ⟨h, fun k hk => (World.ownsRow.lt h k hk).2⟩
theorem Lives.below {w w' : World} {lo hi : Nat} {v : Value} {xs : List Int} (h : Lives w lo hi v xs) (hb : Below w.heap.size w w') : Lives w' lo hi v xs := ⟨h.1.below hb, h.2⟩
theorem Lives.reads {w : World} {lo hi : Nat} {v : Value} {xs : List Int} (h : Lives w lo hi v xs) : Reads w v xs := h.1.reads
theorem Lives.low {w : World} {lo hi : Nat} {v : Value} {xs : List Int} (h : Lives w lo hi v xs) : ∀ k, v.ownBlock = some k → lo ≤ k :=
  fun k hk => (World.ownsRow.lt h.1 k hk).1
theorem Lives.kept {w w' : World} {lo hi lo' hi' : Nat} {v u : Value} {xs ys : List Int} (h : Lives w lo hi v xs) (h' : Lives w lo' hi' u ys) (hg : w.grownBy w' u.ownBlock) (hne : hi ≤ lo' ∨ hi' ≤ lo) : Lives w' lo hi v xs := by
  refine ⟨Own.kept h.1 hg ?_, h.2⟩
  cases hv : v.ownBlock with
  | none => exact .inl rfl
  | some k =>
    right
    intro e
    have h1 := h.2 k hv
    have h2 := h.low k hv
    have h3 := h'.2 k e.symm
    have h4 := h'.low k e.symm
    omega
theorem Lives.marked {w w' : World} {lo hi : Nat} {v : Value} {xs ys : List Int} (h : Lives w lo hi v xs) (ho : Own w' lo v ys) : Lives w' lo hi v ys := ⟨ho, h.2⟩
theorem Below.marked {w w1 w' : World} {lo hi : Nat} {v : Value} {xs : List Int} (h : Below w.heap.size w w1) (hl : Lives w1 lo hi v xs) (hg : w1.grownBy w' v.ownBlock) (hlo : w.heap.size ≤ lo) : Below w.heap.size w w' :=
  h.grown hg h.size (fun k hk => Nat.le_trans hlo (hl.low k hk))

theorem Own.nil (w : World) (lo : Nat) : Own w lo (.slice none 0 0) [] := World.ownsRow_nil _ _ _ _
/-- What the law on append leaves, for one more number. -/
theorem Own.snoc {w : World} {lo : Nat} {v : Value} {xs : List Int} {x : Int} (h : w.ownsRow lo 3 1 v (xs.length + 1) (xs.map (Value.int .i64) ++ [.int .i64 x])) : Own w lo v (xs ++ [x]) := by
  unfold Own
  simpa using h
theorem Own.row {w : World} {lo : Nat} {v : Value} {xs : List Int} (h : Own w lo v xs) : w.ownsRow lo 3 1 v xs.length (xs.map (Value.int .i64)) := h

theorem new_cell1 {u : Value} {w : World} {z : Value} {T : TypeId} (j : Nat) (hj : [z][j]? = some u) : (w.alloc (.cells #[z] T)).cell? ((⟨w.heap.size, 0, none⟩ : Addr).add j) = some u := by
  match j, hj with
  | 0, hj => simp at hj; subst hj; simp [Addr.add]

/-- how many elements are greater than x, or less -/
def countGt (l : List Int) (x : Int) : Nat := (l.filter (fun y => decide (x < y))).length
def countLt (l : List Int) (x : Int) : Nat := (l.filter (fun y => decide (y < x))).length
theorem countGt_le (l : List Int) (x : Int) : countGt l x ≤ l.length := List.length_filter_le _ _
theorem countLt_le (l : List Int) (x : Int) : countLt l x ≤ l.length := List.length_filter_le _ _
theorem countGt_yes {xs : List Int} {k : Nat} {x : Int} (h : k < xs.length) (hx : x < xs[k]) : countGt (xs.take (k + 1)) x = countGt (xs.take k) x + 1 := by
  unfold countGt
  rw [List.take_succ_eq_append_getElem h, List.filter_append, List.length_append]
  simp [hx]
theorem countGt_no {xs : List Int} {k : Nat} {x : Int} (h : k < xs.length) (hx : ¬ x < xs[k]) : countGt (xs.take (k + 1)) x = countGt (xs.take k) x := by
  unfold countGt
  rw [List.take_succ_eq_append_getElem h, List.filter_append, List.length_append]
  simp [hx]
theorem countLt_yes {xs : List Int} {k : Nat} {x : Int} (h : k < xs.length) (hx : xs[k] < x) : countLt (xs.take (k + 1)) x = countLt (xs.take k) x + 1 := by
  unfold countLt
  rw [List.take_succ_eq_append_getElem h, List.filter_append, List.length_append]
  simp [hx]
theorem countLt_no {xs : List Int} {k : Nat} {x : Int} (h : k < xs.length) (hx : ¬ xs[k] < x) : countLt (xs.take (k + 1)) x = countLt (xs.take k) x := by
  unfold countLt
  rw [List.take_succ_eq_append_getElem h, List.filter_append, List.length_append]
  simp [hx]

/-- the inversions at the first k indices -/
def invsTo (xs : List Int) (k : Nat) : List Int := (List.range k).map (fun i : Nat => (countGt (xs.take i) (xs.getD i 0) : Int))
theorem invsTo_succ (xs : List Int) (k : Nat) : invsTo xs (k + 1) = invsTo xs k ++ [(countGt (xs.take k) (xs.getD k 0) : Int)] := by simp [invsTo, List.range_succ]
theorem invsTo_length (xs : List Int) (k : Nat) : (invsTo xs k).length = k := by simp [invsTo]
theorem invsTo_getD (xs : List Int) (n i : Nat) (h : i < n) : (invsTo xs n).getD i 0 = countGt (xs.take i) (xs.getD i 0) := by simp [invsTo, h]
end Go.Proofs.Ytkphbelgamfmnaa
