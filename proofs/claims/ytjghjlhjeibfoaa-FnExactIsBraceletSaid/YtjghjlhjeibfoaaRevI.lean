/- Contract: slices.Reverse at a whole made row of ints. Conditions: at most 2^20 numbers. -/
import Derived.Test.YtjghjlhjeibfoaaRow
import Derived.Ground.NamesProg
import Derived.Shelf.Lay
import Derived.Shelf.Slices.Cells
import Derived.Lib.LazyBuf
namespace Go.Proofs
open Go.Shelf
shelf_lay Lays.n112 Nm 112 at Try as Try.laysRev
end Go.Proofs
namespace Go.Proofs.Ytjghjlhjeibfoaa
open Go.RowKit Go.Shelf
set_option linter.unusedVariables false
set_option maxRecDepth 4000

theorem below_setC9 {B g : Nat} {a : World} (hb : B ≤ g) : ∀ (vs : List Value) (o : Nat) (w : World), Below B a w → Below B a (w.setCells g o vs)
  | [], _, _, h => h
  | v :: r, o, w, h => below_setC9 hb r (o + 1) _ (h.setCell (by exact hb) v)
theorem Reverse_row (g : Nat) (l : List Int) (w : World) (h : w.rowIs g 3 l.length (fun t => .int .i64 (l.getD t 0))) (hl : l.length ≤ 1048576) :
    Calls Try.prog 52 #[.slice (some ⟨g, 0, none⟩) l.length l.length] w fun e w' => e = .returned (.tuple #[]) ∧ w'.rowIs g 3 l.reverse.length (fun t => .int .i64 (l.reverse.getD t 0)) ∧ Below g w w' := by
  have hg := World.rowIs.lt h
  refine (Any.slices_Reverse_int_cells Try.laysRev g 0 l.length _ l _ (Nat.le_refl _) (by omega) (fun t ht => ?_) (fun t _ => h.frozen _)).mono ?_
  · rw [Nat.zero_add]
    exact h.cell ht
  · rintro e w6 ⟨rfl, q, hw6⟩
    refine ⟨rfl, ?_, by rw [hw6]; exact below_setC9 (Nat.le_refl _) _ _ _ (below_drewN (Below.refl _ _) q)⟩
    rw [hw6, List.length_reverse, List.take_length]
    refine (rowIs_setCells _ _ _ _ (show World.rowIs (World.drewN _ q) g 3 l.length _ from h)).congr (fun t ht => ?_)
    have h2 : t < l.reverse.length := by simpa using ht
    simp only [List.length_map, List.length_reverse, Nat.zero_le, Nat.zero_add, true_and, Nat.sub_zero]
    rw [if_pos ht, List.getElem?_map, List.getElem?_eq_getElem h2, List.getD_eq_getElem?_getD, List.getElem?_eq_getElem h2]
    rfl
end Go.Proofs.Ytjghjlhjeibfoaa
