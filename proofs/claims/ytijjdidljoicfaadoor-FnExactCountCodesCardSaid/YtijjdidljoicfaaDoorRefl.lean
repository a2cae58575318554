/- Contracts: gcList, gcPlace, reflected, both ReflectedAt and both ReflectedRank functions. Conditions: at most 10 bits. -/
import Derived.Test.YtijjdidljoicfaaDoorFlip
import Derived.Test.YtijjdidljoicfaaDoorBits
import Derived.Test.YtijjdidljoicfaaDoorTake3
namespace Go.Proofs.YtijjdidljoicfaaDoor
open Go.RowKit
set_option linter.unusedVariables false

theorem grayL_take {m k : Nat} (h : k < 2 ^ m) : (grayL m).take (k + 1) = (grayL m).take k ++ [(gray k : Int)] := by
  rw [List.take_succ_eq_append_getElem (by rw [grayL_length]; exact h)]
  simp [grayL]
theorem grayL_half (m : Nat) : (grayL (m + 1)).take (2 ^ m) = grayL m := by
  unfold grayL
  rw [← List.map_take, List.take_range, Nat.min_eq_left (by rw [Nat.pow_succ]; omega)]
theorem Own.lit9 (w : World) (x : Int) : Own (w.alloc (.cells #[.int .i64 x] 3)) w.heap.size (.slice (some ⟨w.heap.size, 0, none⟩) 1 1) [x] :=
  World.ownsRow_lit w #[.int .i64 x] 1 (Nat.le_refl _) (by unfold maxLen; omega) rfl
theorem Below.drew_alloc {w : World} (o : Obj) : Below w.heap.size w (w.drew.alloc o) := (Below.refl _ _).drew.alloc (Nat.le_refl _) o
theorem size_late {w : World} (o : Obj) : w.heap.size ≤ (w.drew.alloc o).heap.size := (Below.drew_alloc o).size
/-- What is owned, in a region that draws its order, behind a new block. -/
theorem Own.late {w : World} {lo : Nat} {v : Value} {xs : List Int} {n : Nat} (h : Own w lo v xs) (hn : xs.length = n) (o : Obj) : (w.drew.alloc o).ownsRow lo 3 1 v n (xs.map (Value.int .i64)) := by
  have := (h.below (Below.drew_alloc o)).row
  rwa [hn] at this
theorem grayL_ne (m : Nat) : grayL m ≠ [] := by
  intro e
  have h3 := grayL_length m
  have h4 := Nat.two_pow_pos m
  rw [e, List.length_nil] at h3
  omega
/-- the index of a word in the reflected list -/
theorem gray_place {m x : Nat} (hm : m ≤ 10) (hx : x < 2 ^ m) : ∃ h : rkTo x m < (grayL m).length, (grayL m)[rkTo x m] = (x : Int) ∧ ∀ i (hi : i < (grayL m).length), i < rkTo x m → (grayL m)[i] ≠ (x : Int) := by
  obtain ⟨h1, h2⟩ := gray_rk m (by omega) x hx
  refine ⟨by rw [grayL_length]; exact h2, ?_, ?_⟩
  · simp [grayL, h1]
  · intro i hi hlt e
    rw [grayL_length] at hi
    simp only [grayL, List.getElem_map, List.getElem_range] at e
    have e2 : gray i = x := by exact_mod_cast e
    have := rk_gray m (by omega) i hi
    rw [e2] at this
    omega
def rfV (n r : Int) : Int := if bitWordB n r = true then (gray r.toNat : Int) else 0
theorem rfV_yes {n r : Int} (h : bitWordB n r = true) : rfV n r = gray r.toNat := by unfold rfV; rw [if_pos h]
theorem rfV_no {n r : Int} (h : bitWordB n r = false) : rfV n r = 0 := by unfold rfV; rw [if_neg (by rw [h]; simp)]
theorem ret_nb9 {a b : Int} {c d : Bool} (h : a = b) (h' : c = d) : Ending.returned (.tuple #[.int .i64 a, .bool c]) = .returned (.tuple #[.int .i64 b, .bool d]) := by rw [h, h']
theorem bitWordB_nat {n x : Int} (h : bitWordB n x = true) : inB n 1 10 = true ∧ ∃ m y : Nat, n = m ∧ x = y ∧ 1 ≤ m ∧ m ≤ 10 ∧ y < 2 ^ m ∧ y < 1024 := by
  simp only [bitWordB, Bool.and_eq_true] at h
  obtain ⟨m, rfl, h1, h2⟩ := pow_nat h.1
  obtain ⟨y, rfl, h3, h4⟩ := word_nat h.1 h.2
  exact ⟨h.1, m, y, rfl, rfl, h1, h2, by simpa using h3, h4⟩
def rrV (n x : Int) : Int := if bitWordB n x = true then (rkTo x.toNat n.toNat : Int) else 0
theorem rrV_yes {n x : Int} (h : bitWordB n x = true) : rrV n x = rkTo x.toNat n.toNat := by unfold rrV; rw [if_pos h]
theorem rrV_no {n x : Int} (h : bitWordB n x = false) : rrV n x = 0 := by unfold rrV; rw [if_neg (by rw [h]; simp)]
theorem rkTo_lt {x : Nat} (hx : x < 1048576) (k : Nat) : rkTo x k < 1048576 := by
  induction k with
  | zero => simp [rkTo]
  | succ k ih => exact Nat.xor_lt_two_pow (n := 20) ih (Nat.lt_of_le_of_lt (Nat.div_le_self _ _) hx)
end Go.Proofs.YtijjdidljoicfaaDoor
