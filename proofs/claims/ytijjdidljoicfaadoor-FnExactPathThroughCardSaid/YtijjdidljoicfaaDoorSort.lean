/- Contracts: cmp.Less, slices.insertionSortOrdered, slices.pdqsortOrdered and slices.Sort of at most 12 numbers in a row of their own. Conditions: at most 12 numbers. -/
import Derived.Test.YtijjdidljoicfaaDoorPathM
import Derived.Deep.RegionHeld3
import Derived.Deep.RegionLaw
namespace Go.Proofs.YtijjdidljoicfaaDoor
open Go.RowKit
set_option linter.unusedVariables false

theorem exit_of2 {Q : Exit → Act → World → Prop} {a b : Act} {w : World} (h : b = a) (hq : Q .normal b w) : Q .normal a w := h ▸ hq
def swpL (xs : List Int) (i j : Nat) : List Int := (xs.set i (xs.getD j 0)).set j (xs.getD i 0)
theorem swpL_length (xs : List Int) (i j : Nat) : (swpL xs i j).length = xs.length := by simp [swpL]
theorem swpL_getD {xs : List Int} {i j : Nat} (hi : i < xs.length) (hj : j < xs.length) (t : Nat) : (swpL xs i j).getD t 0 = if t = j then xs.getD i 0 else if t = i then xs.getD j 0 else xs.getD t 0 := by
  simp only [swpL, List.getD_eq_getElem?_getD, List.getElem?_set, List.length_set]
  by_cases h1 : t = j
  · subst h1; simp [hj]
  · by_cases h2 : t = i
    · subst h2; simp [h1, Ne.symm h1, hi]
    · simp [h1, h2, Ne.symm h1, Ne.symm h2]
theorem swpL_perm {xs : List Int} {i j : Nat} (hi : i < xs.length) (hj : j < xs.length) : (swpL xs i j).Perm xs := by
  have := @List.set_set_perm _ xs i j hi hj
  rw [swpL, getD_at hi, getD_at hj]
  exact this
def SortedTo (ys : List Int) (k : Nat) : Prop := ∀ p q, p < q → q < k → ys.getD p 0 ≤ ys.getD q 0
def Gap (zs : List Int) (m k : Nat) : Prop := ∀ p q, p < q → q ≤ k → q ≠ m → zs.getD p 0 ≤ zs.getD q 0
theorem gap_start {ys : List Int} {k : Nat} (h : SortedTo ys k) : Gap ys k k := fun p q hp hq hn => h p q hp (by omega)
theorem gap_zero {zs : List Int} {k : Nat} (h : Gap zs 0 k) : SortedTo zs (k + 1) := fun p q hp hq => h p q hp (by omega) (by omega)
theorem gap_stop {zs : List Int} {j k : Nat} (h : Gap zs (j + 1) k) (hl : zs.getD j 0 ≤ zs.getD (j + 1) 0) (hk : j + 1 ≤ k) : SortedTo zs (k + 1) := by
  intro p q hp hq
  by_cases e : q = j + 1
  · subst e
    by_cases e2 : p = j
    · subst e2; exact hl
    · exact Int.le_trans (h p j (by omega) (by omega) (by omega)) hl
  · exact h p q hp (by omega) e
theorem gap_swap {zs : List Int} {j k : Nat} (h : Gap zs (j + 1) k) (hl : zs.getD (j + 1) 0 < zs.getD j 0) (hk : j + 1 ≤ k) (hkl : k < zs.length) : Gap (swpL zs (j + 1) j) j k := by
  have hj1 : j + 1 < zs.length := by omega
  have hj0 : j < zs.length := by omega
  have s1 : (swpL zs (j + 1) j).getD j 0 = zs.getD (j + 1) 0 := by rw [swpL_getD hj1 hj0, if_pos rfl]
  have s2 : (swpL zs (j + 1) j).getD (j + 1) 0 = zs.getD j 0 := by rw [swpL_getD hj1 hj0, if_neg (by omega), if_pos rfl]
  have s3 : ∀ t, t ≠ j → t ≠ j + 1 → (swpL zs (j + 1) j).getD t 0 = zs.getD t 0 := fun t h1 h2 => by rw [swpL_getD hj1 hj0, if_neg h1, if_neg h2]
  intro p q hp hq hn
  by_cases e1 : q = j + 1
  · subst e1
    rw [s2]
    by_cases e2 : p = j
    · subst e2; rw [s1]; omega
    · rw [s3 p e2 (by omega)]
      exact h p j (by omega) (by omega) (by omega)
  · rw [s3 q hn e1]
    by_cases e2 : p = j
    · subst e2
      rw [s1]
      have := h p q hp hq e1
      omega
    · by_cases e3 : p = j + 1
      · subst e3
        rw [s2]
        exact h j q (by omega) hq e1
      · rw [s3 p e2 e3]
        exact h p q hp hq e1
theorem sorted_pairwise {ys : List Int} (h : SortedTo ys ys.length) : ys.Pairwise (fun a b => a ≤ b) := by
  rw [List.pairwise_iff_getElem]
  intro i j hi hj hij
  have := h i j hij hj
  rw [getD_at hi, getD_at hj] at this
  exact this
def RowL (w : World) (g : Nat) (ys : List Int) : Prop := w.rowIs g 3 ys.length (fun t => .int .i64 (ys.getD t 0))
theorem RowL.swap {w : World} {g i j : Nat} {xs : List Int} {x y : Int} (hi : i < xs.length) (hj : j < xs.length) (hx : x = xs.getD i 0) (hy : y = xs.getD j 0) (h : RowL w g xs) :
    RowL ((w.setCell ⟨g, i, none⟩ (.int .i64 y)).setCell ⟨g, j, none⟩ (.int .i64 x)) g (swpL xs i j) := by
  unfold RowL at h ⊢
  rw [swpL_length]
  refine ((h.set i (.int .i64 y)).set j (.int .i64 x)).congr (fun t _ => ?_)
  rw [swpL_getD hi hj, ← hx, ← hy]
  by_cases h1 : t = j
  · rw [if_pos h1, if_pos h1]
  · rw [if_neg h1, if_neg h1]
    by_cases h2 : t = i
    · rw [if_pos h2, if_pos h2]
    · rw [if_neg h2, if_neg h2]
theorem grownBy_drew {w w' : World} {row : Option Nat} (h : w.grownBy w' row) : w.grownBy w'.drew row := ⟨h.os, h.tape, h.output, h.size, h.block⟩
theorem grownBy_setAt' (W : World) (b k : Nat) (v : Value) : W.grownBy (W.setCell ⟨b, k, none⟩ v) (some b) :=
  ⟨rfl, rfl, rfl, by simp, fun i _ hne => Below.heap_setCell _ _ _ i (fun e => hne (by rw [e]))⟩
theorem Less_any (a b : Int) (w : World) : Calls Tryd.prog 49 #[.int .i64 a, .int .i64 b] w fun e w' => e = .returned (.bool (decide (a < b))) ∧ w = w' := by
  have isn : ∀ (x : Int) (w : World), Calls Tryd.prog 63 #[.int .i64 x] w fun e w' => e = .returned (.bool false) ∧ w = w' := by
    intro x w
    have hbb : (x != x) = false := by simp
    go_enter Tryd.func63, Tryd.ntmps63
    go_wp2_with fail
    go_ret
    exact ⟨rfl, rfl⟩
  by_cases h : a < b
  · have hd := hid (decide_eq_true h)
    go_enter Tryd.func49, Tryd.ntmps49
    go_wp2_with (first | (go_at_call 63; refine (isn _ _).mono ?_; rintro e w1 ⟨rfl, rfl⟩) | fail)
    go_ret
    exact ⟨ret_bool hd.out.symm, rfl⟩
  · have hd := hid (decide_eq_false h)
    go_enter Tryd.func49, Tryd.ntmps49
    go_wp2_with (first | (go_at_call 63; refine (isn _ _).mono ?_; rintro e w1 ⟨rfl, rfl⟩) | fail)
    go_ret
    exact ⟨rfl, rfl⟩
set_option maxHeartbeats 2000000 in
theorem insSort_any (g : Nat) (xs : List Int) (w : World) (hn : xs.length ≤ 12) (h : RowL w g xs) :
    Calls Tryd.prog 43 #[.slice (some ⟨g, 0, none⟩) xs.length xs.length, .int .i64 0, .int .i64 xs.length] w fun e w' => e = .returned (.tuple #[]) ∧
      ∃ ys : List Int, ys.length = xs.length ∧ ys.Perm xs ∧ SortedTo ys ys.length ∧ RowL w' g ys ∧ w.grownBy w' (some g) := by
  obtain ⟨n, hnn⟩ : ∃ n, n = xs.length := ⟨_, rfl⟩
  have HNN := hid hnn
  have HR0 := hid h
  rw [← hnn] at hn ⊢
  clear hnn h
  go_enter Tryd.func43, Tryd.ntmps43
  go_wp2_with fail
  go_loopw [6, 7] (fun i _ wr => ∃ (k : Nat) (ys : List Int), 1 ≤ k ∧ (k ≤ n ∨ n = 0) ∧ k ≤ 13 ∧ i = .int .i64 k ∧ ys.length = n ∧ ys.Perm xs ∧ SortedTo ys k ∧ RowL wr g ys ∧ w.grownBy wr (some g)) (fun i _ _ => n - (intOf i).toNat)
  case atStart => exact ⟨1, xs, Nat.le_refl _, by omega, by omega, rfl, HNN.out.symm, List.Perm.refl _, fun p q hp hq => by omega, HR0.out, World.grownBy.refl _ _⟩
  case round =>
    obtain ⟨k, ys, hk1, hk, hk13, rfl, hyl, hperm, hsort, hrow, hgr⟩ := hrel
    have HYL := hid hyl
    have HPERM := hid hperm
    have HSORT := hid hsort
    have HROW := hid hrow
    have HGR := hid hgr
    clear hyl hperm hsort hrow hgr
    by_cases hlt : k < n
    · obtain ⟨wo, hwo⟩ : ∃ wo : World, wo = wr := ⟨_, rfl⟩
      subst hwo
      go_wp2_with fail
      go_loopw [7] (fun j wq => ∃ (m : Nat) (zs : List Int), m ≤ k ∧ j = .int .i64 m ∧ zs.length = n ∧ zs.Perm xs ∧ Gap zs m k ∧ RowL wq g zs ∧ w.grownBy wq (some g)) (fun j _ => (intOf j).toNat)
      case atStart => exact ⟨k, ys, Nat.le_refl _, rfl, HYL.out, HPERM.out, gap_start HSORT.out, HROW.out, HGR.out⟩
      case round =>
        obtain ⟨m, zs, hm, rfl, hzl, hzp, hgap, hzr, hzg⟩ := hrel
        have HZL := hid hzl
        have HZP := hid hzp
        have HGAP := hid hgap
        have HZR := hid hzr
        have HZG := hid hzg
        clear hzl hzp hgap hzr hzg
        obtain ⟨wi, hwi⟩ : ∃ wi : World, wi = wr := ⟨_, rfl⟩
        subst hwi
        cases m with
        | zero =>
          rw [show ((0 : Nat) : Int) = 0 from rfl]
          go_wp2_with fail
          refine wp_region_any (by kernel_rfl) ?_
          (try (change wpAny _ _ _ _ _ _ _ (World.drew _)))
          refine wpAny_take (i := 0) (v := .int .i64 0) rfl (by kernel_rfl) (by kernel_rfl) (by kernel_rfl) (fun _ _ _ h => h) (Or.inl ⟨by kernel_rfl, fun w => by go_simp⟩) ?_
          refine wpAny_take (i := 1) (v := .int .i64 0) rfl (by kernel_rfl) (by kernel_rfl) (by kernel_rfl) (fun _ _ _ h => h) (Or.inl ⟨by kernel_rfl, fun w => by go_simp⟩) ?_
          refine wpAny_take (i := 2) (v := .bool false) rfl (by kernel_rfl) (by kernel_rfl) (by kernel_rfl) (fun _ _ _ h => h) (Or.inl ⟨by kernel_rfl, fun w => by go_simp⟩) ?_
          refine wpAny_take (i := 3) (v := .bool false) rfl (by kernel_rfl) (by kernel_rfl) (by kernel_rfl) (fun _ _ _ h => h) (Or.inl ⟨by kernel_rfl, fun w => by go_simp⟩) ?_
          refine wpAny_take (i := 4) (v := undef) rfl (by kernel_rfl) (by kernel_rfl) (by kernel_rfl) (fun _ _ _ h => h) (Or.inr ⟨by kernel_rfl, rfl⟩) ?_
          refine wpAny_take (i := 5) (v := undef) rfl (by kernel_rfl) (by kernel_rfl) (by kernel_rfl) (fun _ _ _ h => h) (Or.inr ⟨by kernel_rfl, rfl⟩) ?_
          refine wpAny_take (i := 6) (v := undef) rfl (by kernel_rfl) (by kernel_rfl) (by kernel_rfl) (fun _ _ _ h => h) (Or.inr ⟨by kernel_rfl, rfl⟩) ?_
          refine wpAny_take (i := 7) (v := undef) rfl (by kernel_rfl) (by kernel_rfl) (by kernel_rfl) (fun _ _ _ h => h) (Or.inr ⟨by kernel_rfl, rfl⟩) ?_
          refine wpAny_take (i := 8) (v := undef) rfl (by kernel_rfl) (by kernel_rfl) (by kernel_rfl) (fun _ _ _ h => h) (Or.inr ⟨by kernel_rfl, rfl⟩) ?_
          refine wpAny_take (i := 9) (v := undef) rfl (by kernel_rfl) (by kernel_rfl) (by kernel_rfl) (fun _ _ _ h => h) (Or.inr ⟨by kernel_rfl, rfl⟩) ?_
          refine wpAny_take (i := 10) (v := undef) rfl (by kernel_rfl) (by kernel_rfl) (by kernel_rfl) (fun _ _ _ h => h) (Or.inr ⟨by kernel_rfl, rfl⟩) ?_
          refine wpAny_take (i := 11) (v := undef) rfl (by kernel_rfl) (by kernel_rfl) (by kernel_rfl) (fun _ _ _ h => h) (Or.inr ⟨by kernel_rfl, rfl⟩) ?_
          refine wpAny_take (i := 12) (v := undef) rfl (by kernel_rfl) (by kernel_rfl) (by kernel_rfl) (fun _ _ _ h => h) (Or.inr ⟨by kernel_rfl, rfl⟩) ?_
          refine wpAny_take (i := 13) (v := undef) rfl (by kernel_rfl) (by kernel_rfl) (by kernel_rfl) (fun _ _ _ h => h) (Or.inr ⟨by kernel_rfl, rfl⟩) ?_
          refine wpAny_take (i := 14) (v := .bool false) rfl (by kernel_rfl) (by kernel_rfl) (by kernel_rfl) (fun _ _ _ h => h) (Or.inl ⟨by kernel_rfl, fun w => by go_simp⟩) ?_
          refine wpAny_done (by kernel_rfl) ?_ _
          refine exit_of2 (b := { tmps := #[.slice (some ⟨g, 0, none⟩) n n, .int .i64 0, .int .i64 n, undef, undef, undef, .int .i64 k, .int .i64 0, .int .i64 0, .int .i64 1, .int .i64 k, .int .i64 n, .bool true, u13, u14, .int .i64 k, .int .i64 0, .int .i64 0, .bool false, .bool false, undef, undef, undef, undef, undef, undef, undef, undef, undef, undef, .bool false, u31, u32, u33, u34, u35, u36, u37, u38, u39, u40, u41, u42, u43, u44, u45, u46, u47, u48], defers := [] }) (by kernel_rfl) ?_
          have HS1 := hid (gap_zero HGAP.out)
          go_wp2_with fail
          go_roundw
          case rel => exact ⟨k + 1, zs, by omega, by omega, by omega, by go_num, HZL.out, HZP.out, HS1.out, HZR.out, grownBy_drew HZG.out⟩
          case measure => simp [intOf]; omega
        | succ j =>
          have h1 : j + 1 < n := by omega
          have h0 : j < n := by omega
          have hc1 := HZR.out.cell (i := j + 1) (by rw [HZL.out]; exact h1)
          have hc0 := HZR.out.cell (i := j) (by rw [HZL.out]; exact h0)
          have hf1 := HZR.out.frozen (j + 1)
          have hf0 := HZR.out.frozen j
          obtain ⟨x, hx⟩ : ∃ x, x = zs.getD (j + 1) 0 := ⟨_, rfl⟩
          obtain ⟨y, hy⟩ : ∃ y, y = zs.getD j 0 := ⟨_, rfl⟩
          have HX := hid hx
          have HY := hid hy
          rw [← hx] at hc1
          rw [← hy] at hc0
          have hcast : ((j + 1 : Nat) : Int) = (j : Int) + 1 := rfl
          have hgt : (0 : Int) < (j : Int) + 1 := by omega
          have hww : IntKind.i64.wrap ((j : Int) + 1 - 1) = (j : Int) := by rw [show (j : Int) + 1 - 1 = j by omega]; exact IntWalk.i64_in _ (by omega)
          have hwj : IntKind.i64.wrap (j : Int) = (j : Int) := IntWalk.i64_in _ (by omega)
          have hj0 : (0 : Int) ≤ (j : Int) := by omega
          have hj1 : (j : Int) < (n : Int) := by omega
          have hj2 : (0 : Int) ≤ (j : Int) + 1 := by omega
          have hj3 : (j : Int) + 1 < (n : Int) := by omega
          have htn : ((j : Int) + 1).toNat = j + 1 := by omega
          clear hx hy
          by_cases hxy : x < y
          · have HXY := hid (decide_eq_true hxy)
            have HLT := hid hxy
            clear hxy
            go_wp2_with fail
            go_region_held3 (fun w' => w'.cell? ⟨g, j + 1, none⟩ = some (.int .i64 x) ∧ w'.cell? ⟨g, j, none⟩ = some (.int .i64 y))
              (first | exact ⟨hc1, hc0⟩ | go_keep | fail)
              (first | (go_at_call 49; refine (Less_any x y _).mono ?_; rintro e w1 ⟨rfl, rfl⟩; rw [HXY.out]) | fail)
            all_goals
              have HG2 := hid (gap_swap HGAP.out (by rw [← HX.out, ← HY.out]; exact HLT.out) hm (by rw [HZL.out]; exact hlt))
              have HP2 := hid ((swpL_perm (xs := zs) (i := j + 1) (j := j) (by rw [HZL.out]; exact h1) (by rw [HZL.out]; exact h0)).trans HZP.out)
              have HR2 := hid (RowL.swap (i := j + 1) (j := j) (by rw [HZL.out]; exact h1) (by rw [HZL.out]; exact h0) HX.out HY.out HZR.out)
              obtain ⟨w4, hw4⟩ : ∃ w4, w4 = wi.drew := ⟨_, rfl⟩
              have hd1 : w4.cell? ⟨g, j + 1, none⟩ = some (.int .i64 x) := by rw [hw4]; exact hc1
              have hd0 : w4.cell? ⟨g, j, none⟩ = some (.int .i64 y) := by rw [hw4]; exact hc0
              have he1 : w4.frozen? ⟨g, j + 1, none⟩ = false := by rw [hw4]; exact hf1
              have he0 : w4.frozen? ⟨g, j, none⟩ = false := by rw [hw4]; exact hf0
              have HR4 := hid (show RowL ((w4.setCell ⟨g, j + 1, none⟩ (.int .i64 y)).setCell ⟨g, j, none⟩ (.int .i64 x)) g (swpL zs (j + 1) j) by
                rw [hw4]; exact RowL.swap (i := j + 1) (j := j) (by rw [HZL.out]; exact h1) (by rw [HZL.out]; exact h0) HX.out HY.out HZR.out)
              have HG4 := hid (show w.grownBy ((w4.setCell ⟨g, j + 1, none⟩ (.int .i64 y)).setCell ⟨g, j, none⟩ (.int .i64 x)) (some g) by
                rw [hw4]; exact grownBy_trans (grownBy_trans (grownBy_drew HZG.out) (grownBy_setAt' _ _ _ _)) (grownBy_setAt' _ _ _ _))
              rw [← hw4]
              clear hw4 hc1 hc0 hf1 hf0 HR2
              go_wp2_with fail
              go_region_law (fail)
              all_goals
                go_wp2_with fail
                go_roundw
                case rel => exact ⟨j, swpL zs (j + 1) j, by omega, by go_num, by rw [swpL_length]; exact HZL.out, HP2.out, HG2.out, HR4.out, grownBy_drew HG4.out⟩
                case measure => simp [intOf] <;> omega
          · have HXY := hid (decide_eq_false hxy)
            have HLT := hid hxy
            have HS1 := hid (gap_stop HGAP.out (by rw [← HX.out, ← HY.out]; omega) hm)
            clear hxy
            go_wp2_with fail
            go_region_held3 (fun w' => w'.cell? ⟨g, j + 1, none⟩ = some (.int .i64 x) ∧ w'.cell? ⟨g, j, none⟩ = some (.int .i64 y))
              (first | exact ⟨hc1, hc0⟩ | go_keep | fail)
              (first | (go_at_call 49; refine (Less_any x y _).mono ?_; rintro e w1 ⟨rfl, rfl⟩; rw [HXY.out]) | fail)
            all_goals
              go_wp2_with fail
              go_roundw
              case rel => exact ⟨k + 1, zs, by omega, by omega, by omega, by go_num, HZL.out, HZP.out, HS1.out, HZR.out, grownBy_drew HZG.out⟩
              case measure => simp [intOf]; omega
    · have HS9 := hid (show SortedTo ys ys.length from fun p q hp hq => HSORT.out p q hp (by rw [HYL.out] at hq; omega))
      go_wp2_with fail
      go_end0
      exact ⟨rfl, ys, HYL.out, HPERM.out, HS9.out, HROW.out, HGR.out⟩
set_option maxRecDepth 100000 in
set_option maxHeartbeats 2000000 in
theorem Len64_any (x : Nat) (w : World) (hx : x ≤ 12) : Calls Tryd.prog 53 #[.int .u64 (x : Int)] w fun e w' => (∃ r : Int, e = .returned (.int .i64 r)) ∧ w = w' := by
  have hc : x = 0 ∨ x = 1 ∨ x = 2 ∨ x = 3 ∨ x = 4 ∨ x = 5 ∨ x = 6 ∨ x = 7 ∨ x = 8 ∨ x = 9 ∨ x = 10 ∨ x = 11 ∨ x = 12 := by omega
  rcases hc with rfl | rfl | rfl | rfl | rfl | rfl | rfl | rfl | rfl | rfl | rfl | rfl | rfl
  all_goals
    go_enter Tryd.func53, Tryd.ntmps53
    go_wp2_with fail
    go_ret
    exact ⟨⟨_, rfl⟩, rfl⟩
theorem Len_any (x : Nat) (w : World) (hx : x ≤ 12) : Calls Tryd.prog 39 #[.int .u64 (x : Int)] w fun e w' => (∃ r : Int, e = .returned (.int .i64 r)) ∧ w = w' := by
  go_enter Tryd.func39, Tryd.ntmps39
  go_wp2_with (first | (go_at_call 53; refine (Len64_any x _ hx).mono ?_; rintro e w1 ⟨⟨r, rfl⟩, rfl⟩) | fail)
  go_ret
  exact ⟨⟨_, rfl⟩, rfl⟩
theorem pdq_any (g : Nat) (xs : List Int) (q : Int) (w : World) (hn : xs.length ≤ 12) (h : RowL w g xs) :
    Calls Tryd.prog 38 #[.slice (some ⟨g, 0, none⟩) xs.length xs.length, .int .i64 0, .int .i64 xs.length, .int .i64 q] w fun e w' => e = .returned (.tuple #[]) ∧
      ∃ ys : List Int, ys.length = xs.length ∧ ys.Perm xs ∧ SortedTo ys ys.length ∧ RowL w' g ys ∧ w.grownBy w' (some g) := by
  have hsub : IntKind.i64.wrap ((xs.length : Int) - 0) = (xs.length : Int) := by rw [Int.sub_zero]; exact IntWalk.i64_in _ (by omega)
  have hle : (xs.length : Int) ≤ 12 := by omega
  have HR := hid h
  clear h
  go_enter Tryd.func38, Tryd.ntmps38
  go_wp2_with fail
  refine wp_loop_rounds 1 ?_
  rw [rounds_succ]
  go_wp2_with (first | (go_at_call 43; refine (insSort_any g xs _ hn HR.out).mono ?_; rintro e w1 ⟨rfl, hy⟩; have HY := hid hy; clear hy) | fail)
  (try simp only [Exit.inBlock, Exit.then])
  refine bodyPost_ret (results_none rfl _ _ _) rfl ?_
  exact ⟨rfl, HY.out⟩
theorem Sort_any (g : Nat) (xs : List Int) (w : World) (hn : xs.length ≤ 12) (h : RowL w g xs) :
    Calls Tryd.prog 22 #[.slice (some ⟨g, 0, none⟩) xs.length xs.length] w fun e w' => e = .returned (.tuple #[]) ∧
      ∃ ys : List Int, ys.length = xs.length ∧ ys.Perm xs ∧ SortedTo ys ys.length ∧ RowL w' g ys ∧ w.grownBy w' (some g) := by
  have HR := hid h
  have hu : IntKind.u64.wrap (xs.length : Int) = (xs.length : Int) := by rw [IntKind.wrap_u64]; omega
  clear h
  go_enter Tryd.func22, Tryd.ntmps22
  go_wp2_with (first
    | (go_at_call 39; refine (Len_any xs.length _ hn).mono ?_; rintro e w1 ⟨⟨r, rfl⟩, rfl⟩)
    | (go_at_call 38; refine (pdq_any g xs r _ hn HR.out).mono ?_; rintro e w1 ⟨rfl, hy⟩; have HY := hid hy; clear hy)
    | fail)
  go_end0
  exact ⟨rfl, HY.out⟩
end Go.Proofs.YtijjdidljoicfaaDoor
