/- Contract: spCloses, the table of the ways to end a balanced word. Conditions: small numbers. -/
import Derived.Test.YtakelcboamjndabBalM
import Derived.Test.YtakelcboamjndabRow
namespace Go.Proofs.Ytakelcboamjndab
open Go.RowKit Go.Maps
set_option linter.unusedVariables false
set_option maxRecDepth 4000

def tRow (f : Nat → Nat) (m : Nat) : Nat → Nat
  | 0 => if 1 < m then f 1 else 0
  | i + 1 => if i + 2 < m then f (i + 2) + tRow f m i else 0
/-- the table of m numbers behind n rounds -/
def tT (m : Nat) : Nat → Nat → Nat
  | 0 => fun _ => 1
  | n + 1 => tRow (tT m n) m
theorem tT_cl {m : Nat} : ∀ n i, i + n < m → tT m n i = cl n i
  | 0, i, _ => rfl
  | n + 1, 0, h => by
    show tRow (tT m n) m 0 = _
    rw [tRow, if_pos (by omega), cl_first, tT_cl n 1 (by omega)]
  | n + 1, i + 1, h => by
    show tRow (tT m n) m (i + 1) = _
    rw [tRow, if_pos (by omega), cl_next, tT_cl n (i + 2) (by omega), ← tT_cl (m := m) (n + 1) i (by omega)]; rfl
theorem tT_le {m : Nat} : ∀ n i, tT m n i ≤ 2 ^ (2 * n + i)
  | 0, i => by show 1 ≤ _; exact Nat.one_le_two_pow
  | n + 1, 0 => by
    show tRow (tT m n) m 0 ≤ _
    rw [tRow]
    split
    · exact Nat.le_trans (tT_le n 1) (Nat.pow_le_pow_right (by omega) (by omega))
    · exact Nat.zero_le _
  | n + 1, i + 1 => by
    show tRow (tT m n) m (i + 1) ≤ _
    rw [tRow]
    split
    · have h1 := tT_le (m := m) n (i + 2)
      have h2 : tRow (tT m n) m i ≤ _ := tT_le (m := m) (n + 1) i
      have e : 2 ^ (2 * (n + 1) + (i + 1)) = 2 ^ (2 * n + (i + 2)) + 2 ^ (2 * (n + 1) + i) := by
        rw [show 2 * (n + 1) + (i + 1) = (2 * n + (i + 2)) + 1 by omega, show 2 * (n + 1) + i = 2 * n + (i + 2) by omega, Nat.pow_succ]; omega
      omega
    · exact Nat.zero_le _
theorem tT_small {m n i : Nat} (h : 2 * n + i ≤ 60) : tT m n i ≤ 1152921504606846976 := by
  have h1 := tT_le (m := m) n i
  have h2 : 2 ^ (2 * n + i) ≤ 2 ^ 60 := Nat.pow_le_pow_right (by omega) h
  omega
def tL (m n : Nat) : List Int := (List.range m).map fun i => (tT m n i : Int)
theorem tL_length (m n : Nat) : (tL m n).length = m := by simp [tL]
theorem tL_getD {m n i : Nat} (h : i < m) : (tL m n).getD i 0 = (tT m n i : Int) := by simp [tL, List.getD_eq_getElem?_getD, h]
theorem rowTo_set2 {w : World} {g : Nat} {L : List Int} {k : Nat} {c d : Int} (hk : k < L.length) (hd : d = L.getD k 0) (h : w.rowIs g 3 L.length (fun j => .int .i64 (rowTo L k j))) :
    ((w.setCell ⟨g, k, none⟩ (.int .i64 c)).setCell ⟨g, k, none⟩ (.int .i64 d)).rowIs g 3 L.length (fun j => .int .i64 (rowTo L (k + 1) j)) := by
  refine ((h.set k (.int .i64 c)).set k (.int .i64 d)).congr (fun i hi => ?_)
  by_cases e : i = k
  · subst e
    rw [if_pos rfl, rowTo, if_pos (by omega), hd]
  · rw [if_neg e, if_neg e]
    unfold rowTo
    by_cases h1 : i < k
    · rw [if_pos h1, if_pos (by omega)]
    · rw [if_neg h1, if_neg (by omega)]
theorem _root_.Go.World.rowIs.alloc_row {w : World} {g n : Nat} {T : TypeId} {F : Nat → Value} (h : w.rowIs g T n F) (_ : g < w.heap.size) (o : Obj) : (w.alloc o).rowIs g T n F := h.alloc_old o
/-- every number of L stands in the row -/
theorem rowTo_all {w : World} {g m : Nat} {L : List Int} (hm : L.length = m) {k : Nat} (hk : m ≤ k) (h : w.rowIs g 3 L.length (fun j => .int .i64 (rowTo L k j))) : w.rowIs g 3 L.length (fun j => .int .i64 (L.getD j 0)) :=
  h.congr fun i hi => by rw [rowTo, if_pos (by omega)]
end Go.Proofs.Ytakelcboamjndab
