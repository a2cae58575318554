/- Contracts: isGreater, countRelated at isGreater, raInversions, and both InversionsOf functions. Conditions: the slice reads as a list of at most 2^20 numbers. -/
import Derived.Test.YteenmndgejeihaaPerm1
import Derived.Test.YteenmndgejeihaaSits
namespace Go.Proofs.Yteenmndgejeihaa
open Go.RowKit
set_option linter.unusedVariables false

theorem one_cell1 (k : IntKind) (x : Int) : ∀ u ∈ [Value.int k x], u.oneCell' = true := by
  intro u hu
  simp at hu
  subst hu
  rfl
theorem ret_sb {u : Value} {b b' : Bool} (h : b = b') : Ending.returned (.tuple #[u, .bool b]) = .returned (.tuple #[u, .bool b']) := by rw [h]
theorem ret_nb {n n' : Int} {b b' : Bool} (hn : n = n') (h : b = b') : Ending.returned (.tuple #[.int .i64 n, .bool b]) = .returned (.tuple #[.int .i64 n', .bool b']) := by rw [h, hn]

theorem isGreater_any (a b : Int) (w : World) : Calls Try.prog 130 #[.int .i64 a, .int .i64 b] w fun e w' => e = .returned (.bool (decide (b < a))) ∧ w = w' := by
  by_cases h : b < a
  all_goals
    go_enter Try.func130, Try.ntmps130
    go_wp2
    go_ret
    exact ⟨by simp; omega, rfl⟩
theorem countRelated_gt (v : Value) (xs : List Int) (x : Int) (w : World) (h : Reads w v xs) :
    Calls Try.prog 73 #[v, .int .i64 x, .func (.func 130) #[] #[]] w fun e w' => e = .returned (.int .i64 (countGt xs x)) ∧ w = w' := by
  obtain ⟨ao, c, rfl, hc1, hm, h⟩ := h.view
  rcases h with h | ⟨b, off, rfl, hb, hc⟩
  · subst h
    go_enter Try.func73, Try.ntmps73
    go_wp2
    refine wp_loop_rounds 1 ?_
    rw [rounds_succ]
    go_wp2
    go_ret
    exact ⟨rfl, rfl⟩
  · go_enter Try.func73, Try.ntmps73
    go_wp2
    go_loop [7, 9, 12] (fun n _ i => ∃ k : Nat, k ≤ xs.length ∧ i = .int .i64 k ∧ n = .int .i64 (countGt (xs.take k) x)) (fun _ _ i => xs.length - (intOf i).toNat)
    case atStart => exact ⟨0, Nat.zero_le _, rfl, rfl⟩
    case round =>
      obtain ⟨k, hk, rfl, rfl⟩ := hrel
      by_cases hlt : k < xs.length
      · have hcx := hc k hlt
        clear hc
        have hcl : countGt (xs.take k) x ≤ k := Nat.le_trans (countGt_le _ _) (List.length_take_le _ _)
        by_cases hx : x < xs[k]
        · have hb1 : decide (x < xs[k]) = true := by simpa using hx
          have HC := hid (countGt_yes hlt hx)
          clear hx
          go_wp2_with (go_at_call 130; refine (isGreater_any _ _ _).mono ?_; rintro e w' ⟨rfl, rfl⟩)
          go_round
          case rel => exact ⟨k + 1, by omega, by go_num, by rw [HC.out]; go_num⟩
          case measure => simp [intOf]; omega
        · have hb1 : decide (x < xs[k]) = false := by simpa using hx
          have HC := hid (countGt_no hlt hx)
          clear hx
          go_wp2_with (go_at_call 130; refine (isGreater_any _ _ _).mono ?_; rintro e w' ⟨rfl, rfl⟩)
          go_round
          case rel => exact ⟨k + 1, by omega, by go_num, by rw [HC.out]⟩
          case measure => simp [intOf]; omega
      · obtain rfl : k = xs.length := by omega
        go_wp2
        go_ret
        exact ⟨rfl, rfl⟩
/-- the inversions of a permutation, nothing of another list -/
def invRes (xs : List Int) : List Int := if permB xs = true then invsTo xs xs.length else []
theorem invRes_yes {xs : List Int} (h : permB xs = true) : invRes xs = invsTo xs xs.length := by unfold invRes; rw [if_pos h]
theorem invRes_no {xs : List Int} (h : permB xs = false) : invRes xs = [] := by unfold invRes; rw [if_neg (by rw [h]; simp)]
theorem bound_InversionsOf (xs : List Int) : (invRes xs).length ≤ 1048576 := by
  by_cases h : permB xs = true
  · rw [invRes_yes h, invsTo_length]; have := permB_len h; omega
  · rw [invRes_no (by simpa using h)]; simp
theorem impl_InversionsOf_any (v : Value) (xs : List Int) (w : World) (h : Sits w v xs) (hl : xs.length ≤ 1048576) (_hwf : ∀ n ∈ xs, (Lit.int .i64 n).wf = true) :
    Calls Try.prog 119 #[v] w fun e w' => ∃ u, e = .returned (.tuple #[u, .bool (permB xs)]) ∧ Own w' w.heap.size u (invRes xs) ∧ Below w.heap.size w w' := by
  have HR := hid h.reads
  obtain ⟨b, off, c, rfl, hc1, hm, hb, hc⟩ := h
  by_cases hp : permB xs = true
  · have HP := hid (invRes_yes hp)
    go_enter Try.func119, Try.ntmps119
    go_wp2_with fail
    refine (impl_IsPermutation_any _ xs _ HR.out).mono ?_
    rintro e W1 ⟨rfl, hb1⟩
    have hmk := run_make_ints xs.length hl W1
    have HM := hid (World.rowIs_made W1 (.int .i64 0) xs.length 3)
    have HB := hid (hb1.alloc hb1.size (.cells (madeCells #[.int .i64 0] xs.length) 3))
    have hs1 := hb1.size
    have HC := hid hc
    have HP2 := hid hp
    clear hc
    go_wp2_with fail
    clear hmk hp
    go_loopw [5, 6, 15] (fun _ _ i wr => ∃ k : Nat, k ≤ xs.length ∧ i = .int .i64 k ∧ wr.rowIs W1.heap.size 3 xs.length (fun j => .int .i64 (if j < k then (invsTo xs xs.length).getD j 0 else 0)) ∧ Below w.heap.size w wr) (fun _ _ i _ => xs.length - (intOf i).toNat)
    case atStart => exact ⟨0, Nat.zero_le _, rfl, World.rowIs.congr HM.out (fun i hi => by simp), HB.out⟩
    case round =>
      obtain ⟨k, hk, rfl, hrow, hbel⟩ := hrel
      by_cases hlt : k < xs.length
      · have hcr : ∀ i (hi : i < xs.length), wr.cell? ⟨b, off + i, none⟩ = some (.int .i64 xs[i]) := fun i hi => (hbel.cell (by exact hb)).trans (HC.out i hi)
        have hcx := hcr k hlt
        have HR2 := hid (Sits_take (w := wr) (off := off) k (by omega) hc1 hm (Nat.lt_of_lt_of_le hb hbel.size) hcr).reads
        have hf := hrow.frozen k
        have hcc := hrow.cell hlt
        have hs := hrow.set k (.int .i64 (countGt (xs.take k) xs[k]))
        have hbl := hbel.setCell (p := ⟨W1.heap.size, k, none⟩) (by exact hs1) (.int .i64 (countGt (xs.take k) xs[k]))
        have HS := hid hs
        have HB2 := hid hbl
        have HG : Hid ((invsTo xs xs.length).getD k 0 = countGt (xs.take k) xs[k]) := by
          show (invsTo xs xs.length).getD k 0 = countGt (xs.take k) xs[k]
          rw [invsTo_getD _ _ _ hlt, getD_at hlt]
        obtain ⟨z, hz⟩ : ∃ z, wr.cell? ⟨W1.heap.size, k, none⟩ = some z := ⟨_, hcc⟩
        clear hs hbl hrow hbel hcr hcc
        go_wp2_with (go_at_call 73; refine (countRelated_gt _ (xs.take k) _ _ HR2.out).mono ?_; rintro e w' ⟨rfl, rfl⟩)
        go_roundw
        case rel => exact ⟨k + 1, by omega, by go_num, HS.out.congr (fun i hi => by
          by_cases h1 : i = k
          · subst h1; rw [if_pos rfl, if_pos (by omega), HG.out]
          · rw [if_neg h1]
            by_cases h2 : i < k
            · rw [if_pos h2, if_pos (by omega)]
            · rw [if_neg h2, if_neg (by omega)]), HB2.out⟩
        case measure => simp [intOf]; omega
      · have HR3 := hid hrow
        clear hrow
        go_wp2
        go_ret2
        exact ⟨_, ret_sb HP2.out.symm, by rw [HP.out]; exact (Own.of_rowIs (xs := invsTo xs xs.length) (HR3.out.congr (fun i hi => by rw [if_pos (by omega)])) (invsTo_length _ _) (by unfold maxLen; omega)).mono hs1, hbel⟩
  · have hp : permB xs = false := by simpa using hp
    have HP := hid (invRes_no hp)
    have HPF := hid hp
    clear hc
    go_enter Try.func119, Try.ntmps119
    go_wp2_with (go_at_call 72; refine (impl_IsPermutation_any _ xs _ HR.out).mono ?_; rintro e W1 ⟨rfl, hb1⟩)
    go_ret2
    exact ⟨_, ret_sb HPF.out.symm, by rw [HP.out]; exact Own.nil _ _, by assumption⟩
theorem raInversions_any (v : Value) (xs : List Int) (w : World) (h : Sits w v xs) (hl : xs.length ≤ 1048576) :
    Calls Try.prog 129 #[v] w fun e w' => ∃ u, e = .returned u ∧ Own w' w.heap.size u (invsTo xs xs.length) ∧ Below w.heap.size w w' := by
  obtain ⟨b, off, c, rfl, hc1, hm, hb, hc⟩ := h
  obtain ⟨i0, hi, hz0, hz1, hz2⟩ := info_parts Try.info3
  have HC := hid hc
  clear hc
  go_enter Try.func129, Try.ntmps129
  go_wp2
  go_loopw [3, 4, 5, 6, 8, 11, 18, 20] (fun v _ _ _ _ i _ _ wr => ∃ k : Nat, k ≤ xs.length ∧ i = .int .i64 k ∧ Own wr w.heap.size v (invsTo xs k) ∧ Below w.heap.size w wr) (fun _ _ _ _ _ i _ _ _ => xs.length - (intOf i).toNat)
  case atStart => exact ⟨0, Nat.zero_le _, rfl, Own.nil _ _, Below.refl _ _⟩
  case round =>
    obtain ⟨k, hk, rfl, hown, hbel⟩ := hrel
    by_cases hlt : k < xs.length
    · have hcr : ∀ i (hi : i < xs.length), wr.cell? ⟨b, off + i, none⟩ = some (.int .i64 xs[i]) := fun i hi => (hbel.cell (by exact hb)).trans (HC.out i hi)
      have hcx := hcr k hlt
      have HCR := hid hcr
      clear hcr
      have HI := hid (invsTo_succ xs k)
      have HO := hid hown
      have HBB := hid hbel
      have hsz := hbel.size
      clear hown hbel
      go_wp2
      go_loop [6, 8, 20] (fun n _ i => ∃ j : Nat, j ≤ k ∧ i = .int .i64 j ∧ n = .int .i64 (countGt (xs.take j) xs[k])) (fun _ _ i => k - (intOf i).toNat)
      case atStart => exact ⟨0, Nat.zero_le _, rfl, rfl⟩
      case round =>
        obtain ⟨j, hj, rfl, rfl⟩ := hrel
        have hcl : countGt (xs.take j) xs[k] ≤ j := Nat.le_trans (countGt_le _ _) (List.length_take_le _ _)
        by_cases hlj : j < k
        · have hcj := HCR.out j (by omega)
          by_cases hgt : xs[k] < xs[j]
          · have HG := hid (countGt_yes (show j < xs.length by omega) hgt)
            go_wp2
            go_round
            case rel => exact ⟨j + 1, by omega, by go_num, by rw [HG.out]; go_num⟩
            case measure => simp [intOf]; omega
          · have HG := hid (countGt_no (show j < xs.length by omega) hgt)
            go_wp2
            go_round
            case rel => exact ⟨j + 1, by omega, by go_num, by rw [HG.out]⟩
            case measure => simp [intOf]; omega
        · obtain rfl : j = k := by omega
          have hir := HO.out.row
          rw [invsTo_length] at hir
          have HIR := hid hir
          clear hir
          go_wp2_with (at_builtin; refine wpList_append_own _ rfl _ _ 22 rfl w.heap.size 3 i0 (.int .i64 0) 1 8 Try.underlying22 hi hz0 hz1 hz2 rfl (by decide) _ _ _ rfl (World.ownsRow.alloc HIR.out _) ⟨wr.heap.size, 0, none⟩ 1 1 [.int .i64 (countGt (xs.take j) xs[j])] rfl rfl (fun j u hj => new_cell1 j hj) (one_cell1 _ _) ?c3 ?c4 ?c5 ?_)
          case c3 => unfold maxLen; omega
          case c4 => omega
          case c5 => (try simp); omega
          intro v' w1 hown' hgrow _
          have hown2 : Own w1 w.heap.size v' (invsTo xs (j + 1)) := by
            rw [HI.out, getD_at hlt]
            refine Own.snoc ?_
            rw [invsTo_length]
            exact hown'
          have hbel2 : Below w.heap.size w w1 := (HBB.out.alloc hsz _).grown hgrow (by simp; omega) (fun q hq => (World.ownsRow.lt HIR.out q hq).1)
          clear hown' hgrow
          go_wp2
          go_roundw
          case rel => exact ⟨j + 1, by omega, by go_num, hown2, hbel2⟩
          case measure => simp [intOf]; omega
    · obtain rfl : k = xs.length := by omega
      go_wp2
      go_ret
      exact ⟨_, rfl, hown, hbel⟩
end Go.Proofs.Yteenmndgejeihaa
