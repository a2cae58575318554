/- Contracts: spec.InversionsOf, raInverse and both InverseOf functions. Conditions: the slice reads as a list of at most 2^20 numbers. -/
import Derived.Test.YtgfafnejgbblhabPerm3
namespace Go.Proofs.Ytgfafnejgbblhab
open Go.RowKit
set_option linter.unusedVariables false

theorem spec_InversionsOf_any (v : Value) (xs : List Int) (w : World) (h : Sits w v xs) (hl : xs.length ≤ 1048576) (_hwf : ∀ n ∈ xs, (Lit.int .i64 n).wf = true) :
    Calls Try.prog 17 #[v] w fun e w' => ∃ u, e = .returned (.tuple #[u, .bool (permB xs)]) ∧ Own w' w.heap.size u (invRes xs) ∧ Below w.heap.size w w' := by
  have HS := hid h
  have HR := hid h.reads
  clear h
  by_cases hp : permB xs = true
  · have HP := hid (invRes_yes hp)
    have HP2 := hid hp
    go_enter Try.func17, Try.ntmps17
    go_wp2_with (first | (go_at_call 43; refine (raPermutation_any _ xs _ HR.out).mono ?_; rintro e w' ⟨rfl, rfl⟩) | (go_at_call 44; refine (raInversions_any _ xs _ HS.out hl).mono ?_; rintro e w' ⟨u, rfl, hou, hbu⟩))
    go_ret2
    exact ⟨_, ret_sb HP2.out.symm, by rw [HP.out]; assumption, by assumption⟩
  · have hp : permB xs = false := by simpa using hp
    have HP := hid (invRes_no hp)
    have HP2 := hid hp
    go_enter Try.func17, Try.ntmps17
    go_wp2_with (first | (go_at_call 43; refine (raPermutation_any _ xs _ HR.out).mono ?_; rintro e w' ⟨rfl, rfl⟩))
    go_ret2
    exact ⟨_, ret_sb HP2.out.symm, by rw [HP.out]; exact Own.nil _ _, Below.refl _ _⟩

/-- the inverse as far as the first k elements tell it -/
def inverseTo (xs : List Int) : Nat → List Int
  | 0 => List.replicate xs.length 0
  | k + 1 => (inverseTo xs k).set (xs.getD k 0).toNat k
theorem inverseTo_length (xs : List Int) (k : Nat) : (inverseTo xs k).length = xs.length := by
  induction k with
  | zero => simp [inverseTo]
  | succ k ih => rw [inverseTo, List.length_set, ih]
def inverseRes (xs : List Int) : List Int := if permB xs = true then inverseTo xs xs.length else []
theorem inverseRes_yes {xs : List Int} (h : permB xs = true) : inverseRes xs = inverseTo xs xs.length := by unfold inverseRes; rw [if_pos h]
theorem inverseRes_no {xs : List Int} (h : permB xs = false) : inverseRes xs = [] := by unfold inverseRes; rw [if_neg (by rw [h]; simp)]
theorem bound_InverseOf (xs : List Int) : (inverseRes xs).length ≤ 1048576 := by
  by_cases h : permB xs = true
  · rw [inverseRes_yes h, inverseTo_length]; have := permB_len h; omega
  · rw [inverseRes_no (by simpa using h)]; simp

theorem rowIs_setD {w : World} {g n : Nat} {xs : List Int} (x : Nat) (u : Int) (hx : x < n) (hl : xs.length = n) (h : w.rowIs g 3 n (fun i => .int .i64 (xs.getD i 0))) :
    (w.setCell ⟨g, x, none⟩ (.int .i64 u)).rowIs g 3 n (fun i => .int .i64 ((xs.set x u).getD i 0)) := by
  refine (h.set x (.int .i64 u)).congr (fun i hi => ?_)
  by_cases e : i = x
  · subst e
    simp [hl, hi]
  · rw [if_neg e]
    simp [List.getD_eq_getElem?_getD, List.getElem?_set_ne (fun h => e h.symm)]

theorem raInverse_any (v : Value) (xs : List Int) (w : World) (h : Sits w v xs) (hl : xs.length ≤ 1048576) (hp : permB xs = true) :
    Calls Try.prog 54 #[v] w fun e w' => ∃ u, e = .returned u ∧ Own w' w.heap.size u (inverseTo xs xs.length) ∧ Below w.heap.size w w' := by
  obtain ⟨b, off, c, rfl, hc1, hm, hb, hc⟩ := h
  have HP := hid hp
  have hmk := run_make_ints xs.length hl w
  have HM := hid (World.rowIs_made w (.int .i64 0) xs.length 3)
  have HB0 := hid ((Below.refl w.heap.size w).alloc (Nat.le_refl _) (.cells (madeCells #[.int .i64 0] xs.length) 3))
  have HC := hid hc
  clear hc hp
  go_enter Try.func54, Try.ntmps54
  go_wp2
  clear hmk
  go_loopw [4, 5, 11] (fun _ _ i wr => ∃ k : Nat, k ≤ xs.length ∧ i = .int .i64 k ∧ wr.rowIs w.heap.size 3 xs.length (fun j => .int .i64 ((inverseTo xs k).getD j 0)) ∧ Below w.heap.size w wr) (fun _ _ i _ => xs.length - (intOf i).toNat)
  case atStart => exact ⟨0, Nat.zero_le _, rfl, World.rowIs.congr HM.out (fun i hi => by simp [inverseTo, hi]), HB0.out⟩
  case round =>
    obtain ⟨k, hk, rfl, hrow, hbel⟩ := hrel
    by_cases hlt : k < xs.length
    · have hcx : wr.cell? ⟨b, off + k, none⟩ = some (.int .i64 xs[k]) := (hbel.cell (by exact hb)).trans (HC.out k hlt)
      have hin := permB_range HP.out hlt
      rw [getD_at hlt] at hin
      obtain ⟨x, hx⟩ := Int.eq_ofNat_of_zero_le hin.1
      rw [hx] at hcx hin
      have hx1 : x < xs.length := by omega
      have hf := hrow.frozen x
      obtain ⟨z, hz⟩ : ∃ z, wr.cell? ⟨w.heap.size, x, none⟩ = some z := ⟨_, hrow.cell hx1⟩
      have HXX : Hid (inverseTo xs (k + 1) = (inverseTo xs k).set x k) := by
        show inverseTo xs (k + 1) = (inverseTo xs k).set x k
        rw [inverseTo, getD_at hlt, hx, Int.toNat_natCast]
      have HS := hid (rowIs_setD x (k : Int) hx1 (inverseTo_length xs k) hrow)
      have HB := hid (hbel.setCell (p := ⟨w.heap.size, x, none⟩) (Nat.le_refl _) (.int .i64 (k : Int)))
      clear hx hin hrow hbel
      go_wp2
      go_roundw
      case rel => exact ⟨k + 1, by omega, by go_num, by rw [HXX.out]; exact HS.out, HB.out⟩
      case measure => simp [intOf]; omega
    · obtain rfl : k = xs.length := by omega
      have HR := hid hrow
      clear hrow
      go_wp2
      go_ret
      exact ⟨_, rfl, Own.of_rowIs HR.out (inverseTo_length _ _) (by unfold maxLen; omega), hbel⟩
theorem spec_InverseOf_any (v : Value) (xs : List Int) (w : World) (h : Sits w v xs) (hl : xs.length ≤ 1048576) (_hwf : ∀ n ∈ xs, (Lit.int .i64 n).wf = true) :
    Calls Try.prog 23 #[v] w fun e w' => ∃ u, e = .returned (.tuple #[u, .bool (permB xs)]) ∧ Own w' w.heap.size u (inverseRes xs) ∧ Below w.heap.size w w' := by
  have HS := hid h
  have HR := hid h.reads
  clear h
  by_cases hp : permB xs = true
  · have HP := hid (inverseRes_yes hp)
    have HP2 := hid hp
    go_enter Try.func23, Try.ntmps23
    go_wp2_with (first | (go_at_call 43; refine (raPermutation_any _ xs _ HR.out).mono ?_; rintro e w' ⟨rfl, rfl⟩) | (go_at_call 54; refine (raInverse_any _ xs _ HS.out hl HP2.out).mono ?_; rintro e w' ⟨u, rfl, hou, hbu⟩))
    go_ret2
    exact ⟨_, ret_sb HP2.out.symm, by rw [HP.out]; assumption, by assumption⟩
  · have hp : permB xs = false := by simpa using hp
    have HP := hid (inverseRes_no hp)
    have HP2 := hid hp
    go_enter Try.func23, Try.ntmps23
    go_wp2_with (first | (go_at_call 43; refine (raPermutation_any _ xs _ HR.out).mono ?_; rintro e w' ⟨rfl, rfl⟩))
    go_ret2
    exact ⟨_, ret_sb HP2.out.symm, by rw [HP.out]; exact Own.nil _ _, Below.refl _ _⟩
theorem impl_InverseOf_any (v : Value) (xs : List Int) (w : World) (h : Sits w v xs) (hl : xs.length ≤ 1048576) (_hwf : ∀ n ∈ xs, (Lit.int .i64 n).wf = true) :
    Calls Try.prog 24 #[v] w fun e w' => ∃ u, e = .returned (.tuple #[u, .bool (permB xs)]) ∧ Own w' w.heap.size u (inverseRes xs) ∧ Below w.heap.size w w' := by
  have HR := hid h.reads
  obtain ⟨b, off, c, rfl, hc1, hm, hb, hc⟩ := h
  have HC := hid hc
  clear hc
  by_cases hp : permB xs = true
  · have HI := hid (inverseRes_yes hp)
    have HP := hid hp
    go_enter Try.func24, Try.ntmps24
    go_wp2_with fail
    refine (impl_IsPermutation_any _ xs _ HR.out).mono ?_
    rintro e W1 ⟨rfl, hb1⟩
    have hmk := run_make_ints xs.length hl W1
    have HM := hid (World.rowIs_made W1 (.int .i64 0) xs.length 3)
    have HB0 := hid (hb1.alloc hb1.size (.cells (madeCells #[.int .i64 0] xs.length) 3))
    have hs1 := hb1.size
    go_wp2_with fail
    clear hmk hp
    go_loopw [5, 6, 15] (fun _ _ i wr => ∃ k : Nat, k ≤ xs.length ∧ i = .int .i64 k ∧ wr.rowIs W1.heap.size 3 xs.length (fun j => .int .i64 ((inverseTo xs k).getD j 0)) ∧ Below w.heap.size w wr) (fun _ _ i _ => xs.length - (intOf i).toNat)
    case atStart => exact ⟨0, Nat.zero_le _, rfl, World.rowIs.congr HM.out (fun i hi => by simp [inverseTo, hi]), HB0.out⟩
    case round =>
      obtain ⟨k, hk, rfl, hrow, hbel⟩ := hrel
      by_cases hlt : k < xs.length
      · have hcx : wr.cell? ⟨b, off + k, none⟩ = some (.int .i64 xs[k]) := (hbel.cell (by exact hb)).trans (HC.out k hlt)
        have hin := permB_range HP.out hlt
        rw [getD_at hlt] at hin
        obtain ⟨x, hx⟩ := Int.eq_ofNat_of_zero_le hin.1
        rw [hx] at hcx hin
        have hx1 : x < xs.length := by omega
        have hf := hrow.frozen x
        obtain ⟨z, hz⟩ : ∃ z, wr.cell? ⟨W1.heap.size, x, none⟩ = some z := ⟨_, hrow.cell hx1⟩
        have HXX : Hid (inverseTo xs (k + 1) = (inverseTo xs k).set x k) := by
          show inverseTo xs (k + 1) = (inverseTo xs k).set x k
          rw [inverseTo, getD_at hlt, hx, Int.toNat_natCast]
        have HS := hid (rowIs_setD x (k : Int) hx1 (inverseTo_length xs k) hrow)
        have HB := hid (hbel.setCell (p := ⟨W1.heap.size, x, none⟩) (by exact hs1) (.int .i64 (k : Int)))
        clear hx hin hrow hbel
        go_wp2
        go_roundw
        case rel => exact ⟨k + 1, by omega, by go_num, by rw [HXX.out]; exact HS.out, HB.out⟩
        case measure => simp [intOf]; omega
      · obtain rfl : k = xs.length := by omega
        have HRW := hid hrow
        clear hrow
        go_wp2
        go_ret2
        exact ⟨_, ret_sb HP.out.symm, by rw [HI.out]; exact (Own.of_rowIs HRW.out (inverseTo_length _ _) (by unfold maxLen; omega)).mono hs1, hbel⟩
  · have hp : permB xs = false := by simpa using hp
    have HP := hid (inverseRes_no hp)
    have HPF := hid hp
    go_enter Try.func24, Try.ntmps24
    go_wp2_with (go_at_call 36; refine (impl_IsPermutation_any _ xs _ HR.out).mono ?_; rintro e W1 ⟨rfl, hb1⟩)
    go_ret2
    exact ⟨_, ret_sb HPF.out.symm, by rw [HP.out]; exact Own.nil _ _, by assumption⟩
end Go.Proofs.Ytgfafnejgbblhab
