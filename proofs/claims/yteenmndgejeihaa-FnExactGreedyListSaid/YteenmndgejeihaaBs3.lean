/- Facts and contracts (Mv1, Mv2, Mv3, Mv4, Mv5, Mv6, Mv7, Mv8, Mv9, Mv10, RkM, Mv11, Mv12, DsM), merged. Conditions: as told at each. -/
import Derived.Test.YteenmndgejeihaaBs1
import Derived.Handy
import Derived.Test.YteenmndgejeihaaBs2

/- Contracts: moGood and spec.IsMove. Conditions: none. -/
namespace Go.Proofs.Yteenmndgejeihaa
open Go.RowKit
set_option linter.unusedVariables false

/-- a move of permutations of n -/
def mvB (n k i j : Int) : Bool := if k = 0 then inB j 1 (n - 1) && inB i 0 (j - 1) else if k = 1 ∨ k = 2 then inB i 2 n && decide (j = 0) else false
theorem mvB_0 {n i j : Int} : mvB n 0 i j = (inB j 1 (n - 1) && inB i 0 (j - 1)) := rfl
theorem mvB_12 {n k i j : Int} (h : k = 1 ∨ k = 2) : mvB n k i j = (inB i 2 n && decide (j = 0)) := by
  unfold mvB
  rw [if_neg (by omega), if_pos h]
theorem mvB_no {n k i j : Int} (h : k < 0 ∨ 2 < k) : mvB n k i j = false := by
  unfold mvB
  rw [if_neg (by omega), if_neg (by omega)]
abbrev mvObj (k i j : Int) : Obj := .cells #[.int .i64 k, .int .i64 i, .int .i64 j] 38
theorem moGood_any (n k i j : Int) (w : World) (hn : 0 ≤ n) (hn2 : n ≤ 1000) :
    Calls Try.prog 77 #[.int .i64 n, .agg #[.int .i64 k, .int .i64 i, .int .i64 j]] w fun e w' => e = .returned (.bool (mvB n k i j)) ∧ Below w.heap.size w w' := by
  have HB := hid ((Below.refl w.heap.size w).alloc (Nat.le_refl _) (mvObj k i j))
  have hw1 : IntKind.i64.wrap (n - 1) = n - 1 := IntWalk.i64_in _ (by omega)
  by_cases h0 : k = 0
  · subst h0
    cases hj : inB j 1 (n - 1) with
    | true =>
      have HJ := hid hj
      have hj2 := inB_iff.1 hj
      have hw2 : IntKind.i64.wrap (j - 1) = j - 1 := IntWalk.i64_in _ (by omega)
      have HV := hid (show mvB n 0 i j = inB i 0 (j - 1) by rw [mvB_0, hj]; rfl)
      clear hj hj2
      go_enter Try.func77, Try.ntmps77
      go_wp2_with (first | (go_at_call 63; refine (l1In_any _ _ _ _).mono ?_; rintro e w' ⟨rfl, rfl⟩; (try rw [HJ.out])) | fail)
      go_returns
      exact ⟨ret_bool HV.out.symm, HB.out⟩
    | false =>
      have HJ := hid hj
      have HV := hid (show mvB n 0 i j = false by rw [mvB_0, hj]; rfl)
      clear hj
      go_enter Try.func77, Try.ntmps77
      go_wp2_with (first | (go_at_call 63; refine (l1In_any _ _ _ _).mono ?_; rintro e w' ⟨rfl, rfl⟩; (try rw [HJ.out])) | fail)
      go_returns
      exact ⟨ret_bool HV.out.symm, HB.out⟩
  · by_cases h1 : k = 1 ∨ k = 2
    · have HV := hid (mvB_12 (n := n) (i := i) (j := j) h1)
      rcases h1 with rfl | rfl
      all_goals
        cases hi : inB i 2 n with
        | true =>
          have HI := hid hi
          rw [hi, Bool.true_and] at HV
          by_cases hj : j = 0
          · subst hj
            clear hi
            go_enter Try.func77, Try.ntmps77
            go_wp2_with (first | (go_at_call 63; refine (l1In_any _ _ _ _).mono ?_; rintro e w' ⟨rfl, rfl⟩; rw [HI.out]) | fail)
            go_returns
            exact ⟨ret_bool HV.out.symm, HB.out⟩
          · have hjb : (j == 0) = false := by simp [hj]
            rw [decide_eq_false hj] at HV
            clear hi
            go_enter Try.func77, Try.ntmps77
            go_wp2_with (first | (go_at_call 63; refine (l1In_any _ _ _ _).mono ?_; rintro e w' ⟨rfl, rfl⟩; rw [HI.out]) | fail)
            go_returns
            exact ⟨ret_bool HV.out.symm, HB.out⟩
        | false =>
          have HI := hid hi
          rw [hi, Bool.false_and] at HV
          clear hi
          go_enter Try.func77, Try.ntmps77
          go_wp2_with (first | (go_at_call 63; refine (l1In_any _ _ _ _).mono ?_; rintro e w' ⟨rfl, rfl⟩; rw [HI.out]) | fail)
          go_returns
          exact ⟨ret_bool HV.out.symm, HB.out⟩
    · have HV := hid (show mvB n k i j = false from mvB_no (by omega))
      have e0 : (k == 0) = false := by simp; omega
      have e1 : (k == 1) = false := by simp; omega
      have e2 : (k == 2) = false := by simp; omega
      clear h0 h1
      go_enter Try.func77, Try.ntmps77
      go_wp2_with fail
      go_returns
      exact ⟨ret_bool HV.out.symm, HB.out⟩
theorem ret_bb4 {a b c d : Bool} (h : a = c) (h2 : b = d) : Ending.returned (.tuple #[.bool a, .bool b]) = Ending.returned (.tuple #[.bool c, .bool d]) := by rw [h, h2]
def imV (n k i j : Int) : Bool := inB n 0 12 && mvB n k i j
theorem spec_IsMove_any (n k i j : Int) (w : World) :
    Calls Try.prog 28 #[.int .i64 n, .agg #[.int .i64 k, .int .i64 i, .int .i64 j]] w fun e w' => e = .returned (.tuple #[.bool (imV n k i j), .bool (inB n 0 12)]) ∧ Below w.heap.size w w' := by
  have HB := hid ((Below.refl w.heap.size w).alloc (Nat.le_refl _) (mvObj k i j))
  cases hn : inB n 0 12 with
  | true =>
    have hn2 := inB_iff.1 hn
    have HN := hid hn
    have HV := hid (show mvB n k i j = imV n k i j by rw [imV, hn]; rfl)
    clear hn
    go_enter Try.func28, Try.ntmps28
    go_wp2_with (first | (go_at_call 62; refine (raItems_any _ _).mono ?_; rintro e w' ⟨rfl, rfl⟩; rw [HN.out]) | (go_at_call 77; refine (moGood_any n k i j _ hn2.1 (by omega)).mono ?_; rintro e w1 ⟨rfl, hb1⟩; have HB1 := hid hb1; clear hb1) | fail)
    go_ret2
    exact ⟨ret_bb4 HV.out rfl, by first | exact HB1.out | exact Below_chain HB.out HB1.out⟩
  | false =>
    have HN := hid hn
    have HV := hid (show imV n k i j = false by rw [imV, hn]; rfl)
    clear hn
    go_enter Try.func28, Try.ntmps28
    go_wp2_with (first | (go_at_call 62; refine (raItems_any _ _).mono ?_; rintro e w' ⟨rfl, rfl⟩; rw [HN.out]) | fail)
    go_ret2
    exact ⟨ret_bb4 HV.out.symm rfl, by first | exact Below.refl _ _ | exact HB.out⟩
end Go.Proofs.Yteenmndgejeihaa

/- Contracts: moApply, spec.ApplyMove. Conditions: the slice reads as a list; the move is one of its permutations. -/
namespace Go.Proofs.Yteenmndgejeihaa
open Go.RowKit
set_option linter.unusedVariables false

/-- from which place the element at t comes -/
def mvS (k i j : Int) (t : Nat) : Nat := if k = 0 then (if (t : Int) = i then j.toNat else if (t : Int) = j then i.toNat else t) else if k = 1 then (if (t : Int) < i then (i - 1 - t).toNat else t) else (if (t : Int) < i then ((t : Int) + 1).toNat % i.toNat else t)
/-- the list behind a move -/
def mvL (k i j : Int) (l : List Int) : List Int := (List.range l.length).map (fun t => l.getD (mvS k i j t) 0)
theorem mvL_len (k i j : Int) (l : List Int) : (mvL k i j l).length = l.length := by simp [mvL]
theorem mvL_get {k i j : Int} {l : List Int} {t : Nat} (h : t < l.length) : (mvL k i j l).getD t 0 = l.getD (mvS k i j t) 0 := by
  rw [mvL, List.getD_eq_getElem?_getD, List.getElem?_map, List.getElem?_range h]
  rfl
/-- the first m places are moved -/
def mvT (k i j : Int) (l : List Int) (m : Nat) : List Int := (List.range l.length).map (fun t => if t < m then l.getD (mvS k i j t) 0 else l.getD t 0)
theorem mvT_len (k i j : Int) (l : List Int) (m : Nat) : (mvT k i j l m).length = l.length := by simp [mvT]
theorem mvT_0 (k i j : Int) (l : List Int) : mvT k i j l 0 = l := by
  apply List.ext_getElem
  · rw [mvT_len]
  · intro t h1 h2
    simp only [mvT, List.getElem_map, List.getElem_range, Nat.not_lt_zero, if_false]
    exact getD_at h2
theorem mvT_set {k i j : Int} {l : List Int} {m : Nat} (h : m < l.length) : (mvT k i j l m).set m (l.getD (mvS k i j m) 0) = mvT k i j l (m + 1) := by
  apply List.ext_getElem
  · rw [List.length_set, mvT_len, mvT_len]
  · intro t h1 h2
    rw [List.getElem_set]
    simp only [mvT, List.getElem_map, List.getElem_range]
    by_cases e : m = t
    · subst e
      rw [if_pos rfl, if_pos (by omega)]
    · rw [if_neg e]
      by_cases h3 : t < m
      · rw [if_pos h3, if_pos (by omega)]
      · rw [if_neg h3, if_neg (by omega)]
theorem mvT_end {k i j : Int} {l : List Int} {m : Nat} (h : ∀ t, m ≤ t → mvS k i j t = t) : mvT k i j l m = mvL k i j l := by
  apply List.ext_getElem
  · rw [mvT_len, mvL_len]
  · intro t h1 h2
    simp only [mvT, mvL, List.getElem_map, List.getElem_range]
    by_cases h3 : t < m
    · rw [if_pos h3]
    · rw [if_neg h3, h t (by omega)]
theorem mvL_swap {i j : Nat} {l : List Int} (hij : i < j) (hj : j < l.length) : (l.set i (l.getD j 0)).set j (l.getD i 0) = mvL 0 (i : Int) (j : Int) l := by
  apply List.ext_getElem
  · rw [List.length_set, List.length_set, mvL_len]
  · intro t h1 h2
    rw [List.getElem_set, List.getElem_set]
    simp only [mvL, mvS, List.getElem_map, List.getElem_range, if_pos]
    have ht : t < l.length := by rw [mvL_len] at h2; exact h2
    by_cases e1 : j = t
    · subst e1
      rw [if_pos rfl, if_neg (by omega), if_pos rfl, Int.toNat_natCast]
    · rw [if_neg e1]
      by_cases e2 : i = t
      · subst e2
        rw [if_pos rfl, if_pos rfl, Int.toNat_natCast]
      · rw [if_neg e2, if_neg (by omega), if_neg (by omega)]
        exact (getD_at ht).symm
theorem mv_box (w : World) (k i j : Int) : (w.alloc (mvObj k i j)).cell? ⟨w.heap.size, 0, none⟩ = some (.int .i64 k) ∧ (w.alloc (mvObj k i j)).cell? ⟨w.heap.size, 1, none⟩ = some (.int .i64 i) ∧ (w.alloc (mvObj k i j)).cell? ⟨w.heap.size, 2, none⟩ = some (.int .i64 j) := by
  have h := World.rowIs_alloc w #[.int .i64 k, .int .i64 i, .int .i64 j] 38 (fun t => if t = 0 then .int .i64 k else if t = 1 then .int .i64 i else .int .i64 j) (fun t ht => by
    match t, ht with
    | 0, _ => rfl | 1, _ => rfl | 2, _ => rfl
    | t + 3, h => exact absurd h (by simp))
  exact ⟨h.cell (i := 0) (by simp), h.cell (i := 1) (by simp), h.cell (i := 2) (by simp)⟩
theorem cell_below2 {w w' : World} {p : Addr} {x : Value} (h : w.cell? p = some x) (hb : Below w.heap.size w w') : w'.cell? p = some x :=
  (hb.cell (World.block_lt_of_cell? w p h)).trans h
theorem mvB_two {n k i j : Int} (h : mvB n k i j = true) : 2 ≤ n ∧ (k = 0 ∧ 0 ≤ i ∧ i < j ∧ j < n ∨ (k = 1 ∨ k = 2) ∧ 2 ≤ i ∧ i ≤ n) := by
  unfold mvB at h
  split at h
  · rename_i hk
    rw [Bool.and_eq_true, inB_iff, inB_iff] at h
    omega
  · split at h
    · rename_i hk
      rw [Bool.and_eq_true, inB_iff] at h
      omega
    · simp at h
theorem Own.setN {w : World} {base g n cap : Nat} {xs : List Int} (h : Own w base (.slice (some ⟨g, 0, none⟩) n cap) xs) (j : Nat) (u : Int) :
    Own (w.setCell ⟨g, j, none⟩ (.int .i64 u)) base (.slice (some ⟨g, 0, none⟩) n cap) (xs.set j u) ∧ w.grownBy (w.setCell ⟨g, j, none⟩ (.int .i64 u)) (some g) := by
  have hn := h.len
  subst hn
  exact h.set j u
set_option maxHeartbeats 1000000 in
theorem moApply_any (v : Value) (l : List Int) (k i j : Int) (w : World) (h : Reads w v l) (hl : l.length ≤ 1000) (hm : mvB l.length k i j = true) :
    Calls Try.prog 79 #[v, .agg #[.int .i64 k, .int .i64 i, .int .i64 j]] w fun e w' => ∃ u, e = .returned u ∧ Own w' w.heap.size u (mvL k i j l) ∧ Below w.heap.size w w' := by
  have h2 := mvB_two hm
  obtain ⟨ao, c, rfl, hc1, hcm, h⟩ := h.view
  rcases h with h | ⟨b, off, rfl, hb, hc⟩
  · rw [h] at h2; simp at h2
  have HBA := hid ((Below.refl w.heap.size w).alloc (Nat.le_refl _) (mvObj k i j))
  have HS := hid (show Sits w (.slice (some ⟨b, off, none⟩) l.length c) l from ⟨b, off, c, rfl, hc1, hcm, hb, hc⟩)
  have HBX := hid (mv_box w k i j)
  have HC := hid hc
  clear hc hm
  rcases h2.2 with ⟨rfl, hi0, hij, hjn⟩ | ⟨hk, hi2, hin⟩
  · obtain ⟨i, rfl⟩ : ∃ a : Nat, i = a := ⟨i.toNat, by omega⟩
    obtain ⟨j, rfl⟩ : ∃ a : Nat, j = a := ⟨j.toNat, by omega⟩
    go_enter Try.func79, Try.ntmps79
    go_wp2_with fail
    refine (l1Own_any _ l _ (HS.out.below HBA.out) (by omega)).mono ?_
    rintro e w1 ⟨u, rfl, ho1, hb1, hn1⟩
    obtain ⟨x0, x1, x2⟩ := HBX.out
    have hx0 := cell_below2 x0 hb1
    have hx1 := cell_below2 x1 hb1
    have hx2 := cell_below2 x2 hb1
    have hil : i < l.length := by omega
    have hjl : j < l.length := by omega
    obtain ⟨x, hx⟩ : ∃ x, x = l.getD i 0 := ⟨_, rfl⟩
    obtain ⟨y, hy⟩ : ∃ y, y = l.getD j 0 := ⟨_, rfl⟩
    have hci : w1.cell? ⟨b, off + i, none⟩ = some (.int .i64 x) := by
      rw [hx, getD_at hil]
      exact cell_below2 (cell_below2 (HC.out i hil) HBA.out) hb1
    have hcj : w1.cell? ⟨b, off + j, none⟩ = some (.int .i64 y) := by
      rw [hy, getD_at hjl]
      exact cell_below2 (cell_below2 (HC.out j hjl) HBA.out) hb1
    rcases ho1.form with ⟨rfl, _⟩ | ⟨g, cap, rfl, hg, hglt, hg1, hg2, hgc, hgf⟩
    · exact absurd rfl hn1
    have hgi := hgc i hil
    rw [Nat.zero_add, ← hx] at hgi
    have hgj := hgc j hjl
    rw [Nat.zero_add, ← hy] at hgj
    have hfi := hgf i
    have hfj := hgf j
    have HO1 := hid ho1
    have HB1 := hid hb1
    have HXX := hid hx
    have HYY := hid hy
    have hij2 : i < j := by omega
    clear ho1 hb1 hn1 hgc hgf hx hy x0 x1 x2 h2 HBX
    go_wp2_with fail
    go_region_law (fail)
    all_goals
      have hs := HO1.out.set i y
      have HO2 := hid (Own.below hs.1 (Below.drew (Below.refl _ _)))
      have hgr := hs.2
      have HB2 := hid (show Below w.heap.size w (w1.setCell ⟨g, i, none⟩ (.int .i64 y)).drew from Below.drew ((Below_chain HBA.out HB1.out).setCell (p := ⟨g, i, none⟩) (by show w.heap.size ≤ g; simp at hg; omega) _))
      have hw := HB1.out.size
      have ky0 : (w1.setCell ⟨g, i, none⟩ (.int .i64 y)).drew.cell? ⟨w.heap.size, 1, none⟩ = some (.int .i64 (i : Int)) := hgr.cell hx1 (by simp at hg ⊢; omega)
      have ky1 : (w1.setCell ⟨g, i, none⟩ (.int .i64 y)).drew.cell? ⟨w.heap.size, 2, none⟩ = some (.int .i64 (j : Int)) := hgr.cell hx2 (by simp at hg ⊢; omega)
      have ky2 : (w1.setCell ⟨g, i, none⟩ (.int .i64 y)).drew.cell? ⟨b, off + i, none⟩ = some (.int .i64 x) := hgr.cell hci (by simp at hg ⊢; omega)
      have hlen : (l.set i y).length = l.length := List.length_set
      rcases HO2.out.form with ⟨e, _⟩ | ⟨g', cap', e, _, _, _, _, hgc, hgf⟩
      · cases e
      simp only [Value.slice.injEq, Option.some.injEq, Addr.mk.injEq] at e
      obtain ⟨⟨rfl, _, _⟩, hle, hce⟩ := e
      clear hle hce
      have ky3 := hgc j (by rw [hlen]; exact hjl)
      rw [Nat.zero_add] at ky3
      have ky4 := hgf j
      obtain ⟨w2, hw2⟩ : ∃ w2, w2 = (w1.setCell ⟨g, i, none⟩ (.int .i64 y)).drew := ⟨_, rfl⟩
      rw [← hw2] at HO2 HB2 ky0 ky1 ky2 ky3 ky4 ⊢
      obtain ⟨z, hz⟩ : ∃ z, w2.cell? ⟨g, j, none⟩ = some z := ⟨_, ky3⟩
      clear hs hgr hgc hgf ky3 hw2 hgi hgj hfi hfj hci hcj hx0 hx1 hx2 hlen
      go_wp2_with fail
      go_region_law (fail)
      all_goals
        have HO3 := hid (Own.below (HO2.out.setN j x).1 (Below.drew (Below.refl _ _)))
        have HB3 := hid (show Below w.heap.size w (w2.setCell ⟨g, j, none⟩ (.int .i64 x)).drew from Below.drew (HB2.out.setCell (p := ⟨g, j, none⟩) (by show w.heap.size ≤ g; simp at hg; omega) _))
        obtain ⟨w3, hw3⟩ : ∃ w3, w3 = (w2.setCell ⟨g, j, none⟩ (.int .i64 x)).drew := ⟨_, rfl⟩
        rw [← hw3] at HO3 HB3 ⊢
        have HE := hid (mvL_swap hij2 hjl)
        rw [← HXX.out, ← HYY.out] at HE
        clear hw3
        go_wp2_with fail
        go_returns
        exact ⟨_, rfl, by rw [← HE.out]; exact HO3.out.mono (by simp), HB3.out⟩
  · rcases hk with rfl | rfl
    · obtain ⟨i, rfl⟩ : ∃ a : Nat, i = a := ⟨i.toNat, by omega⟩
      have hi2n : 2 ≤ i := by omega
      have hinn : i ≤ l.length := by omega
      go_enter Try.func79, Try.ntmps79
      go_wp2_with fail
      refine (l1Own_any _ l _ (HS.out.below HBA.out) (by omega)).mono ?_
      rintro e w1 ⟨u, rfl, ho1, hb1, hn1⟩
      obtain ⟨x0, x1, x2⟩ := HBX.out
      have hx0 := cell_below2 x0 hb1
      have hx1 := cell_below2 x1 hb1
      rcases ho1.form with ⟨rfl, _⟩ | ⟨g, cap, rfl, hg, hglt, hg1, hg2, hgc, hgf⟩
      · exact absurd rfl hn1
      have HO1 := hid ho1
      have HB1 := hid (Below_chain HBA.out hb1)
      have hgw : w.heap.size < g := by simp at hg; omega
      have HX1 := hid hx1
      have HEND := hid (show mvT 1 (i : Int) j l i = mvL 1 (i : Int) j l from mvT_end (fun t ht => by unfold mvS; simp; omega))
      clear ho1 hb1 hn1 hgc hgf x0 x1 x2 h2 HBX hg
      go_wp2_with fail
      go_loopw [6] (fun s wr => ∃ t : Nat, t ≤ i ∧ s = .int .i64 t ∧ Own wr (w.heap.size + 1) (.slice (some ⟨g, 0, none⟩) l.length cap) (mvT 1 (i : Int) j l t) ∧ wr.cell? ⟨w.heap.size, 1, none⟩ = some (.int .i64 (i : Int)) ∧ Below w.heap.size w wr) (fun s _ => i - (intOf s).toNat)
      case atStart => exact ⟨0, Nat.zero_le _, rfl, by rw [mvT_0]; exact HO1.out.mono (by simp), HX1.out, HB1.out⟩
      case round =>
        obtain ⟨t, ht, rfl, hown, hbx, hbel⟩ := hrel
        have HO := hid hown
        have HB := hid hbel
        have HBXX := hid hbx
        by_cases hlt : t < i
        · have htl : t < l.length := by omega
          obtain ⟨q, hq⟩ : ∃ q, q = mvS 1 (i : Int) j t := ⟨_, rfl⟩
          have HQ := hid hq
          have hql : q < l.length := by rw [hq]; unfold mvS; rw [if_neg (show ¬ ((1 : Int) = 0) by omega), if_pos rfl, if_pos (show (t : Int) < (i : Int) by omega)]; omega
          obtain ⟨x, hx⟩ : ∃ x, x = l.getD q 0 := ⟨_, rfl⟩
          have HX := hid hx
          have hcx : wr.cell? ⟨b, off + q, none⟩ = some (.int .i64 x) := by rw [hx, getD_at hql]; exact (hbel.cell (by exact hb)).trans (HC.out q hql)
          rcases HO.out.form with ⟨e, _⟩ | ⟨g', cap', e, _, _, _, _, hgc, hgf⟩
          · cases e
          simp only [Value.slice.injEq, Option.some.injEq, Addr.mk.injEq] at e
          obtain ⟨⟨rfl, _, _⟩, hle, hce⟩ := e
          have hgt := hgc t (by rw [mvT_len]; exact htl)
          rw [Nat.zero_add] at hgt
          have hft := hgf t
          obtain ⟨z, hz⟩ : ∃ z, wr.cell? ⟨g, t, none⟩ = some z := ⟨_, hgt⟩
          have hqq : q = i - 1 - t := by rw [hq]; unfold mvS; simp only [show ¬ ((1 : Int) = 0) by omega, if_false, if_true]; rw [if_pos (show (t : Int) < (i : Int) by omega)]; omega
          have hw1 : IntKind.i64.wrap ((i : Int) - 1) = (i : Int) - 1 := IntWalk.i64_in _ (by omega)
          have hw2 : IntKind.i64.wrap ((i : Int) - 1 - (t : Int)) = (q : Int) := by rw [show (i : Int) - 1 - (t : Int) = (q : Int) by omega]; exact IntWalk.i64_in _ (by omega)
          have hw3 : IntKind.i64.wrap (q : Int) = (q : Int) := IntWalk.i64_in _ (by omega)
          have e0 : (0 : Int) ≤ (q : Int) := by omega
          have e1 : (q : Int) < (l.length : Int) := by omega
          clear hqq
          clear hle hce hgt hgc hgf hown hbel hx hq
          go_wp2_with fail
          have HE := hid (show (mvT 1 (i : Int) j l t).set t x = mvT 1 (i : Int) j l (t + 1) by rw [HX.out, HQ.out]; exact mvT_set htl)
          have HSS := hid (HO.out.setN t x)
          go_roundw
          case rel => exact ⟨t + 1, by omega, by go_num, by rw [← HE.out]; exact HSS.out.1, HSS.out.2.cell HBXX.out (by simp; omega), HB.out.setCell (p := ⟨g, t, none⟩) (by show w.heap.size ≤ g; omega) _⟩
          case measure => simp [intOf]; omega
        · obtain rfl : t = i := by omega
          clear hown hbel
          go_wp2_with fail
          go_returns
          exact ⟨_, rfl, by rw [← HEND.out]; exact HO.out.mono (by omega), HB.out⟩
    · obtain ⟨i, rfl⟩ : ∃ a : Nat, i = a := ⟨i.toNat, by omega⟩
      have hi2n : 2 ≤ i := by omega
      have hinn : i ≤ l.length := by omega
      go_enter Try.func79, Try.ntmps79
      go_wp2_with fail
      refine (l1Own_any _ l _ (HS.out.below HBA.out) (by omega)).mono ?_
      rintro e w1 ⟨u, rfl, ho1, hb1, hn1⟩
      obtain ⟨x0, x1, x2⟩ := HBX.out
      have hx0 := cell_below2 x0 hb1
      have hx1 := cell_below2 x1 hb1
      rcases ho1.form with ⟨rfl, _⟩ | ⟨g, cap, rfl, hg, hglt, hg1, hg2, hgc, hgf⟩
      · exact absurd rfl hn1
      have HO1 := hid ho1
      have HB1 := hid (Below_chain HBA.out hb1)
      have hgw : w.heap.size < g := by simp at hg; omega
      have HX1 := hid hx1
      have HEND := hid (show mvT 2 (i : Int) j l i = mvL 2 (i : Int) j l from mvT_end (fun t ht => by unfold mvS; simp; omega))
      clear ho1 hb1 hn1 hgc hgf x0 x1 x2 h2 HBX hg
      go_wp2_with fail
      go_loopw [7] (fun s wr => ∃ t : Nat, t ≤ i ∧ s = .int .i64 t ∧ Own wr (w.heap.size + 1) (.slice (some ⟨g, 0, none⟩) l.length cap) (mvT 2 (i : Int) j l t) ∧ wr.cell? ⟨w.heap.size, 1, none⟩ = some (.int .i64 (i : Int)) ∧ Below w.heap.size w wr) (fun s _ => i - (intOf s).toNat)
      case atStart => exact ⟨0, Nat.zero_le _, rfl, by rw [mvT_0]; exact HO1.out.mono (by simp), HX1.out, HB1.out⟩
      case round =>
        obtain ⟨t, ht, rfl, hown, hbx, hbel⟩ := hrel
        have HO := hid hown
        have HB := hid hbel
        have HBXX := hid hbx
        by_cases hlt : t < i
        · have htl : t < l.length := by omega
          obtain ⟨q, hq⟩ : ∃ q, q = mvS 2 (i : Int) j t := ⟨_, rfl⟩
          have HQ := hid hq
          have hql : q < l.length := by rw [hq]; unfold mvS; simp only [show ¬ ((2 : Int) = 0) by omega, if_false]; rw [if_neg (by omega), if_pos (by omega)]; have h1 := Nat.mod_lt ((t : Int) + 1).toNat (show 0 < ((i : Int)).toNat by omega); simp only [Int.toNat_natCast] at h1 ⊢; omega
          obtain ⟨x, hx⟩ : ∃ x, x = l.getD q 0 := ⟨_, rfl⟩
          have HX := hid hx
          have hcx : wr.cell? ⟨b, off + q, none⟩ = some (.int .i64 x) := by rw [hx, getD_at hql]; exact (hbel.cell (by exact hb)).trans (HC.out q hql)
          rcases HO.out.form with ⟨e, _⟩ | ⟨g', cap', e, _, _, _, _, hgc, hgf⟩
          · cases e
          simp only [Value.slice.injEq, Option.some.injEq, Addr.mk.injEq] at e
          obtain ⟨⟨rfl, _, _⟩, hle, hce⟩ := e
          have hgt := hgc t (by rw [mvT_len]; exact htl)
          rw [Nat.zero_add] at hgt
          have hft := hgf t
          obtain ⟨z, hz⟩ : ∃ z, wr.cell? ⟨g, t, none⟩ = some z := ⟨_, hgt⟩
          have hqq : (q : Int) = ((t : Int) + 1) % (i : Int) := by rw [hq]; unfold mvS; rw [if_neg (by omega), if_neg (by omega), if_pos (by omega), Int.toNat_natCast, show ((t : Int) + 1).toNat = t + 1 by omega]; simp
          have hw1 : IntKind.i64.wrap ((t : Int) + 1) = (t : Int) + 1 := IntWalk.i64_in _ (by omega)
          have e0 : (0 : Int) ≤ (q : Int) := by omega
          have e1 : (q : Int) < (l.length : Int) := by omega
          have hq3 : ((t : Int) + 1) % (i : Int) = (q : Int) := hqq.symm
          have hi0 : ¬ (i : Int) = 0 := by omega
          clear hqq
          clear hle hce hgt hgc hgf hown hbel hx hq
          go_wp2_with fail
          have HE := hid (show (mvT 2 (i : Int) j l t).set t x = mvT 2 (i : Int) j l (t + 1) by rw [HX.out, HQ.out]; exact mvT_set htl)
          have HSS := hid (HO.out.setN t x)
          go_roundw
          case rel => exact ⟨t + 1, by omega, by go_num, by rw [← HE.out]; exact HSS.out.1, HSS.out.2.cell HBXX.out (by simp; omega), HB.out.setCell (p := ⟨g, t, none⟩) (by show w.heap.size ≤ g; omega) _⟩
          case measure => simp [intOf]; omega
        · obtain rfl : t = i := by omega
          clear hown hbel
          go_wp2_with fail
          go_returns
          exact ⟨_, rfl, by rw [← HEND.out]; exact HO.out.mono (by omega), HB.out⟩
end Go.Proofs.Yteenmndgejeihaa

/- Contracts: spec.ApplyMove, moSign, spec.MoveSign and spec.MoveOrder. Conditions: the slice reads as a list. -/
namespace Go.Proofs.Yteenmndgejeihaa
open Go.RowKit
set_option linter.unusedVariables false

def apB (l : List Int) (k i j : Int) : Bool := permB l && mvB l.length k i j
def apRes (l : List Int) (k i j : Int) : List Int := if apB l k i j = true then mvL k i j l else []
theorem apRes_yes {l : List Int} {k i j : Int} (h : apB l k i j = true) : apRes l k i j = mvL k i j l := by unfold apRes; rw [if_pos h]
theorem apRes_no {l : List Int} {k i j : Int} (h : apB l k i j = false) : apRes l k i j = [] := by unfold apRes; rw [if_neg (by rw [h]; simp)]
theorem bound_ApplyMove (l : List Int) (k i j : Int) : (apRes l k i j).length ≤ 1048576 := by
  cases h : apB l k i j with
  | false => rw [apRes_no h]; simp
  | true =>
    rw [apRes_yes h, mvL_len]
    rw [apB, Bool.and_eq_true] at h
    have := permB_len h.1
    omega
theorem ret_sbA {u : Value} {b b' : Bool} (h : b = b') : Ending.returned (.tuple #[u, .bool b]) = .returned (.tuple #[u, .bool b']) := by rw [h]
theorem ret_nbA {a b : Int} {c d : Bool} (h : a = b) (h' : c = d) : Ending.returned (.tuple #[.int .i64 a, .bool c]) = .returned (.tuple #[.int .i64 b, .bool d]) := by rw [h, h']
theorem spec_ApplyMove_any (v : Value) (l : List Int) (k i j : Int) (w : World) (h : Sits w v l) :
    Calls Try.prog 31 #[v, .agg #[.int .i64 k, .int .i64 i, .int .i64 j]] w fun e w' => ∃ u, e = .returned (.tuple #[u, .bool (apB l k i j)]) ∧ Own w' w.heap.size u (apRes l k i j) ∧ Below w.heap.size w w' := by
  have hba := (Below.refl w.heap.size w).alloc (Nat.le_refl _) (mvObj k i j)
  have HBA := hid hba
  obtain ⟨x0, x1, x2⟩ := mv_box w k i j
  have HX0 := hid x0
  have HX1 := hid x1
  have HX2 := hid x2
  have HR := hid (h.reads.below hba)
  obtain ⟨b, off, c, rfl, hc1, hm, hb, hc⟩ := h
  clear hc hba x0 x1 x2
  cases hp : permB l with
  | false =>
    have HP := hid hp
    have HN := hid (show apB l k i j = false by rw [apB, hp]; rfl)
    clear hp
    go_enter Try.func31, Try.ntmps31
    go_wp2_with (first | (go_at_call 70; refine (raPermutation_any _ l _ HR.out).mono ?_; rintro e w' ⟨rfl, rfl⟩; rw [HP.out]) | fail)
    go_ret2
    exact ⟨_, ret_sbA HN.out.symm, by rw [apRes_no HN.out]; exact Own.nil _ _, HBA.out⟩
  | true =>
    have HP := hid hp
    have hlen := permB_len hp
    cases hg : mvB l.length k i j with
    | false =>
      have HG := hid hg
      have HN := hid (show apB l k i j = false by rw [apB, hg, Bool.and_false])
      clear hp hg
      go_enter Try.func31, Try.ntmps31
      go_wp2_with (first | (go_at_call 70; refine (raPermutation_any _ l _ HR.out).mono ?_; rintro e w' ⟨rfl, rfl⟩; rw [HP.out]) | (go_at_call 77; refine (moGood_any _ k i j _ (by omega) (by omega)).mono ?_; rintro e w1 ⟨rfl, hb1⟩; rw [HG.out]; have HB1 := hid (Below_chain HBA.out hb1); clear hb1) | fail)
      go_ret2
      exact ⟨_, ret_sbA HN.out.symm, by rw [apRes_no HN.out]; exact Own.nil _ _, HB1.out⟩
    | true =>
      have HG := hid hg
      have HN := hid (show apB l k i j = true by rw [apB, hp, hg]; rfl)
      clear hp hg
      go_enter Try.func31, Try.ntmps31
      go_wp2_with (first | (go_at_call 70; refine (raPermutation_any _ l _ HR.out).mono ?_; rintro e w' ⟨rfl, rfl⟩; rw [HP.out]) | (go_at_call 77; refine (moGood_any _ k i j _ (by omega) (by omega)).mono ?_; rintro e w1 ⟨rfl, hb1⟩; rw [HG.out]; have HB1 := hid (Below_chain HBA.out hb1); have HR1 := hid (HR.out.below hb1); have hx0 := cell_below2 HX0.out hb1; have hx1 := cell_below2 HX1.out hb1; have hx2 := cell_below2 HX2.out hb1; clear hb1) | (go_at_call 79; refine (moApply_any _ l k i j _ HR1.out (by omega) HG.out).mono ?_; rintro e w2 ⟨u, rfl, ho2, hb2⟩; have HO2 := hid ho2; have HB2 := hid (Below_chain HB1.out hb2); have hs1 := HB1.out.size; clear ho2 hb2) | fail)
      go_ret2
      exact ⟨_, ret_sbA HN.out.symm, by rw [apRes_yes HN.out]; exact HO2.out.mono hs1, HB2.out⟩
theorem own_twelve {w : World} {B : Nat} {v : Value} {xs : List Int} (h0 : 0 < xs.length) (h : Own w B v xs) : ∃ g c, v = .slice (some ⟨g, 0, none⟩) xs.length c ∧ Hid (Sits w v xs) := by
  rcases h.form with ⟨_, hn⟩ | ⟨g, cap, e, _⟩
  · rw [hn] at h0; simp at h0
  · refine ⟨g, cap, e, hid ?_⟩
    rw [e] at h ⊢
    exact h.sits
/-- the sign of a move, as that of what it makes of the first permutation -/
def sgV (k i j : Int) : Int := signSum (sumTo (invsTo (mvL k i j (upTo 12)) (mvL k i j (upTo 12)).length) (mvL k i j (upTo 12)).length)
theorem moSign_any (k i j : Int) (w : World) (hm : mvB 12 k i j = true) :
    Calls Try.prog 81 #[.agg #[.int .i64 k, .int .i64 i, .int .i64 j]] w fun e w' => e = .returned (.int .i64 (sgV k i j)) ∧ Below w.heap.size w w' := by
  have HU := hid (upTo_length 12)
  have HM := hid (show mvB (upTo 12).length k i j = true by rw [HU.out]; exact hm)
  have HLM := hid (mvL_len k i j (upTo 12))
  obtain ⟨x0, x1, x2⟩ := mv_box w k i j
  have hba := (Below.refl w.heap.size w).alloc (Nat.le_refl _) (mvObj k i j)
  have HBA := hid hba
  have hsa : (w.alloc (mvObj k i j)).heap.size = w.heap.size + 1 := by simp
  clear hm hba
  go_enter Try.func81, Try.ntmps81
  go_wp2_with fail
  go_region_held3 (fun w' => w'.cell? ⟨w.heap.size, 0, none⟩ = some (.int .i64 k) ∧ w'.cell? ⟨w.heap.size, 1, none⟩ = some (.int .i64 i) ∧ w'.cell? ⟨w.heap.size, 2, none⟩ = some (.int .i64 j))
    (first | exact ⟨x0, x1, x2⟩ | exact ⟨cell_below2 x0 HA1.out, cell_below2 x1 HA1.out, cell_below2 x2 HA1.out⟩ | exact ⟨cell_below2 x0 HA2.out, cell_below2 x1 HA2.out, cell_below2 x2 HA2.out⟩ | exact ⟨cell_below2 x0 HA3.out, cell_below2 x1 HA3.out, cell_below2 x2 HA3.out⟩ | go_keep | fail)
    (first
      | (go_at_call 84; refine (raUpTo_any 12 _ (by omega)).mono ?_; rintro e w1 ⟨u1, rfl, ho1, hb1⟩; have HR1 := hid ho1.reads; have HA1 := hid ((Below.refl _ _).drew.trans hb1 : Below (w.alloc (mvObj k i j)).heap.size (w.alloc (mvObj k i j)) w1); clear ho1 hb1)
      | (go_at_call 79; refine (moApply_any _ (upTo 12) k i j _ HR1.out (by rw [HU.out]; omega) HM.out).mono ?_; rintro e w2 ⟨u2, rfl, ho2, hb2⟩; have HA2 := hid (Below_chain HA1.out hb2); obtain ⟨g2, c2, rfl, HS2⟩ := own_twelve (by rw [HLM.out, HU.out]; omega) ho2; clear ho2 hb2)
      | (go_at_call 118; refine (raSign_any _ (mvL k i j (upTo 12)) _ HS2.out (by rw [HLM.out, HU.out]; omega)).mono ?_; rintro e w3 ⟨rfl, hb3⟩; have HA3 := hid (Below_chain HA2.out hb3); clear hb3)
      | fail)
  all_goals
    go_wp2_with fail
    go_returns
    exact ⟨rfl, Below_chain HBA.out HA3.out⟩
def msV (k i j : Int) : Int := if mvB 12 k i j = true then sgV k i j else 0
theorem spec_MoveSign_any (k i j : Int) (w : World) :
    Calls Try.prog 33 #[.agg #[.int .i64 k, .int .i64 i, .int .i64 j]] w fun e w' => e = .returned (.tuple #[.int .i64 (msV k i j), .bool (mvB 12 k i j)]) ∧ Below w.heap.size w w' := by
  have hba := (Below.refl w.heap.size w).alloc (Nat.le_refl _) (mvObj k i j)
  have HBA := hid hba
  obtain ⟨x0, x1, x2⟩ := mv_box w k i j
  have HX0 := hid x0
  have HX1 := hid x1
  have HX2 := hid x2
  clear x0 x1 x2 hba
  cases hm : mvB 12 k i j with
  | false =>
    have HM := hid hm
    have HV := hid (show msV k i j = 0 by rw [msV, hm, if_neg (by simp)])
    clear hm
    go_enter Try.func33, Try.ntmps33
    go_wp2_with (first | (go_at_call 77; refine (moGood_any 12 k i j _ (by omega) (by omega)).mono ?_; rintro e w1 ⟨rfl, hb1⟩; rw [HM.out]; have HB1 := hid (Below_chain HBA.out hb1); have hx0 := cell_below2 HX0.out hb1; have hx1 := cell_below2 HX1.out hb1; have hx2 := cell_below2 HX2.out hb1; clear hb1) | fail)
    go_ret2
    exact ⟨ret_nbA HV.out.symm rfl, HB1.out⟩
  | true =>
    have HM := hid hm
    have HV := hid (show msV k i j = sgV k i j by rw [msV, if_pos hm])
    clear hm
    go_enter Try.func33, Try.ntmps33
    go_wp2_with (first | (go_at_call 77; refine (moGood_any 12 k i j _ (by omega) (by omega)).mono ?_; rintro e w1 ⟨rfl, hb1⟩; rw [HM.out]; have HB1 := hid (Below_chain HBA.out hb1); have hx0 := cell_below2 HX0.out hb1; have hx1 := cell_below2 HX1.out hb1; have hx2 := cell_below2 HX2.out hb1; clear hb1) | (go_at_call 81; refine (moSign_any k i j _ HM.out).mono ?_; rintro e w2 ⟨rfl, hb2⟩; have HB2 := hid (Below_chain HB1.out hb2); clear hb2) | fail)
    go_ret2
    exact ⟨ret_nbA HV.out.symm rfl, HB2.out⟩
end Go.Proofs.Yteenmndgejeihaa

/- Contract: spec.MoveOrder. Conditions: none. -/
namespace Go.Proofs.Yteenmndgejeihaa
open Go.RowKit
set_option linter.unusedVariables false

/-- the first permutation behind a move made so often -/
def pwL (k i j : Int) : Nat → List Int
  | 0 => upTo 12
  | e + 1 => mvL k i j (pwL k i j e)
def ordN (k i j : Int) : Nat := ((List.range 12).find? (fun d => pwL k i j (d + 1) == upTo 12)).getD 0 + 1
def ordP (k i j : Int) : Prop := pwL k i j (ordN k i j) = upTo 12 ∧ ordN k i j ≤ 12 ∧ ∀ d, d < 13 → 1 ≤ d → d < ordN k i j → pwL k i j d ≠ upTo 12
instance (k i j : Int) : Decidable (ordP k i j) := by unfold ordP; infer_instance
set_option maxRecDepth 100000 in
theorem ord_swap : ∀ j : Nat, j < 12 → ∀ i : Nat, i < j → ordP 0 (i : Int) (j : Int) := by decide +kernel
set_option maxRecDepth 100000 in
theorem ord_rev : ∀ i : Nat, i < 13 → 2 ≤ i → ordP 1 (i : Int) 0 ∧ ordP 2 (i : Int) 0 := by decide +kernel
theorem ord_all {k i j : Int} (h : mvB 12 k i j = true) : ordP k i j := by
  have h2 := mvB_two h
  rcases h2.2 with ⟨rfl, h0, h1, h3⟩ | ⟨hk, h0, h1⟩
  · have := ord_swap j.toNat (by omega) i.toNat (by omega)
    rwa [show ((j.toNat : Nat) : Int) = j by omega, show ((i.toNat : Nat) : Int) = i by omega] at this
  · have hj : j = 0 := by
      rw [mvB_12 hk, Bool.and_eq_true, decide_eq_true_eq] at h
      exact h.2
    subst hj
    have := ord_rev i.toNat (by omega) (by omega)
    rw [show ((i.toNat : Nat) : Int) = i by omega] at this
    rcases hk with rfl | rfl
    · exact this.1
    · exact this.2
theorem pwL_len (k i j : Int) : ∀ e, (pwL k i j e).length = 12
  | 0 => upTo_length 12
  | e + 1 => by rw [pwL, mvL_len]; exact pwL_len k i j e
def moV (k i j : Int) : Int := if mvB 12 k i j = true then (ordN k i j : Int) else 0
set_option maxHeartbeats 1000000 in
theorem spec_MoveOrder_any (k i j : Int) (w : World) :
    Calls Try.prog 35 #[.agg #[.int .i64 k, .int .i64 i, .int .i64 j]] w fun e w' => e = .returned (.tuple #[.int .i64 (moV k i j), .bool (mvB 12 k i j)]) ∧ Below w.heap.size w w' := by
  have hba := (Below.refl w.heap.size w).alloc (Nat.le_refl _) (mvObj k i j)
  have HBA := hid hba
  obtain ⟨x0, x1, x2⟩ := mv_box w k i j
  have HX0 := hid x0
  have HX1 := hid x1
  have HX2 := hid x2
  clear x0 x1 x2 hba
  cases hm : mvB 12 k i j with
  | false =>
    have HM := hid hm
    have HV := hid (show moV k i j = 0 by rw [moV, hm, if_neg (by simp)])
    clear hm
    go_enter Try.func35, Try.ntmps35
    go_wp2_with (first | (go_at_call 77; refine (moGood_any 12 k i j _ (by omega) (by omega)).mono ?_; rintro e w1 ⟨rfl, hb1⟩; rw [HM.out]; have HB1 := hid (Below_chain HBA.out hb1); clear hb1) | fail)
    go_ret2
    exact ⟨ret_nbA HV.out.symm rfl, HB1.out⟩
  | true =>
    have HM := hid hm
    have HV := hid (show moV k i j = (ordN k i j : Int) by rw [moV, if_pos hm])
    have HORD := hid (ord_all hm)
    have HLP := hid (pwL_len k i j)
    have hle := HORD.out.2.1
    obtain ⟨N, hN⟩ : ∃ N, N = ordN k i j := ⟨_, rfl⟩
    have HN := hid hN
    have h1N : 1 ≤ N := by rw [hN]; unfold ordN; omega
    rw [← hN] at hle HV
    clear hm hN
    go_enter Try.func35, Try.ntmps35
    go_wp2_with fail
    refine (moGood_any 12 k i j _ (by omega) (by omega)).mono ?_
    rintro e w1 ⟨rfl, hb1⟩
    rw [HM.out]
    have hx0 := cell_below2 HX0.out hb1
    have hx1 := cell_below2 HX1.out hb1
    have hx2 := cell_below2 HX2.out hb1
    have K0 := hid hx0; have K1 := hid hx1; have K2 := hid hx2
    have HB1 := hid (Below_chain HBA.out hb1)
    clear hb1
    go_wp2_with fail
    refine (raUpTo_any 12 _ (by omega)).mono ?_
    rintro e w2 ⟨u1, rfl, ho2, hb2⟩
    obtain ⟨g, c, rfl, HS2⟩ := own_twelve (by rw [upTo_length]; omega) ho2
    rw [upTo_length] at HS2 ⊢
    have HO2 := hid ho2
    have HB2 := hid (Below_chain HB1.out hb2)
    have J0 := hid (cell_below2 K0.out hb2); have J1 := hid (cell_below2 K1.out hb2); have J2 := hid (cell_below2 K2.out hb2)
    have hj0 := J0.out; have hj1 := J1.out; have hj2 := J2.out
    have HR2 := hid HS2.out.reads
    clear hx0 hx1 hx2 ho2 hb2
    go_wp2_with fail
    refine (moApply_any _ (upTo 12) k i j _ HR2.out (by rw [upTo_length]; omega) (by rw [upTo_length]; exact HM.out)).mono ?_
    rintro e w3 ⟨u2, rfl, ho3, hb3⟩
    obtain ⟨g2, c2, rfl, HS3⟩ := own_twelve (by rw [mvL_len, upTo_length]; omega) ho3
    rw [mvL_len, upTo_length] at HS3 ⊢
    have HB3 := hid (Below_chain HB2.out hb3)
    have L0 := hid (cell_below2 J0.out hb3); have L1 := hid (cell_below2 J1.out hb3); have L2 := hid (cell_below2 J2.out hb3)
    have HR3 := hid (HR2.out.below hb3)
    clear hj0 hj1 hj2 ho3 hb3
    go_wp2_with fail
    go_loopw [5, 6] (fun ev nv wr => ∃ (t gn cn : Nat), 1 ≤ t ∧ t ≤ N ∧ ev = .int .i64 t ∧ nv = .slice (some ⟨gn, 0, none⟩) 12 cn ∧ Sits wr (.slice (some ⟨gn, 0, none⟩) 12 cn) (pwL k i j t) ∧ wr.cell? ⟨w.heap.size, 0, none⟩ = some (.int .i64 k) ∧ wr.cell? ⟨w.heap.size, 1, none⟩ = some (.int .i64 i) ∧ wr.cell? ⟨w.heap.size, 2, none⟩ = some (.int .i64 j) ∧
      Reads wr (.slice (some ⟨g, 0, none⟩) 12 c) (upTo 12) ∧ Below w.heap.size w wr) (fun ev _ _ => N - (intOf ev).toNat)
    case atStart => exact ⟨1, g2, c2, Nat.le_refl _, h1N, rfl, rfl, HS3.out, L0.out, L1.out, L2.out, HR3.out, HB3.out⟩
    case round =>
      obtain ⟨t, gn, cn, ht1, htN, rfl, rfl, hsit, h0, h1, h2, hrd, hbel⟩ := hrel
      have HSIT := hid hsit
      have HRD := hid hrd
      have HBEL := hid hbel
      have P0 := hid h0; have P1 := hid h1; have P2 := hid h2
      obtain ⟨q, hq⟩ : ∃ q, q = pwL k i j t := ⟨_, rfl⟩
      rw [← hq] at HSIT
      by_cases hlt : t = N
      · have hqe : q = upTo 12 := by rw [hq, hlt, HN.out]; exact HORD.out.1
        have HQE := hid hqe
        have HT := hid hlt
        clear hsit hrd hbel hq hlt hqe h0 h1 h2
        go_wp2_with (first | (go_at_call 85; refine (l1Same_any _ _ q (upTo 12) _ HSIT.out.reads HRD.out).mono ?_; rintro e w4 ⟨rfl, hb4⟩; rw [decide_eq_true HQE.out]; have HB4 := hid (Below_chain HBEL.out hb4); clear hb4) | fail)
        go_ret2
        exact ⟨ret_nbA (by rw [HV.out, HT.out]) rfl, HB4.out⟩
      · have hne : q ≠ upTo 12 := by rw [hq]; exact HORD.out.2.2 t (by omega) ht1 (by rw [← HN.out]; omega)
        have HNE := hid hne
        have HPQ := hid (show pwL k i j (t + 1) = mvL k i j q by rw [pwL, hq])
        have hql : q.length = 12 := by rw [hq]; exact HLP.out t
        have HQL := hid hql
        have hww : IntKind.i64.wrap ((t : Int) + 1) = (t : Int) + 1 := IntWalk.i64_in _ (by omega)
        clear hsit hrd hbel hq hne hql
        go_wp2_with fail
        refine (l1Same_any _ _ q (upTo 12) _ HSIT.out.reads HRD.out).mono ?_
        rintro e w4 ⟨rfl, hb4⟩
        rw [decide_eq_false HNE.out]
        have HB4 := hid (Below_chain HBEL.out hb4)
        have HS4 := hid (HSIT.out.below hb4)
        have HR4 := hid (HRD.out.below hb4)
        have hy0 := cell_below2 P0.out hb4; have hy1 := cell_below2 P1.out hb4; have hy2 := cell_below2 P2.out hb4
        have Q0 := hid hy0; have Q1 := hid hy1; have Q2 := hid hy2
        clear hb4 h0 h1 h2
        go_wp2_with fail
        refine (moApply_any _ q k i j _ HS4.out.reads (by rw [HQL.out]; omega) (by rw [HQL.out]; exact HM.out)).mono ?_
        rintro e w5 ⟨u5, rfl, ho5, hb5⟩
        obtain ⟨g5, c5, rfl, HS5⟩ := own_twelve (by rw [mvL_len, HQL.out]; omega) ho5
        rw [mvL_len, HQL.out] at HS5 ⊢
        have HB5 := hid (Below_chain HB4.out hb5)
        have HR5 := hid (HR4.out.below hb5)
        have Z0 := hid (cell_below2 Q0.out hb5); have Z1 := hid (cell_below2 Q1.out hb5); have Z2 := hid (cell_below2 Q2.out hb5)
        clear ho5 hb5 hy0 hy1 hy2
        go_wp2_with fail
        go_roundw
        case rel => exact ⟨t + 1, g5, c5, by omega, by omega, by go_num, rfl, by rw [HPQ.out]; exact HS5.out, Z0.out, Z1.out, Z2.out, HR5.out, HB5.out⟩
        case measure => simp [intOf]; omega
end Go.Proofs.Yteenmndgejeihaa

/- Contracts: moGood at any number, moTask. Conditions: the slice reads as a list of moves of 64 bits. -/
namespace Go.Proofs.Yteenmndgejeihaa
open Go.RowKit
set_option linter.unusedVariables false

abbrev Mv := Int × Int × Int
/-- v is a slice of moves that reads as ms -/
def ReadsM (w : World) (v : Value) (ms : List Mv) : Prop :=
  ∃ ao c, v = .slice ao ms.length c ∧ ms.length ≤ c ∧ c ≤ maxLen ∧
    (ms = [] ∨ ∃ b off, ao = some ⟨b, off, none⟩ ∧ b < w.heap.size ∧ ∀ t (h : t < ms.length), w.cell? ⟨b, off + t * 3, none⟩ = some (.int .i64 ms[t].1) ∧ w.cell? ⟨b, off + t * 3 + 1, none⟩ = some (.int .i64 ms[t].2.1) ∧ w.cell? ⟨b, off + t * 3 + 2, none⟩ = some (.int .i64 ms[t].2.2))
theorem ReadsM.below {w w' : World} {v : Value} {ms : List Mv} (h : ReadsM w v ms) (hb : Below w.heap.size w w') : ReadsM w' v ms := by
  obtain ⟨ao, c, rfl, h1, h2, h⟩ := h
  refine ⟨ao, c, rfl, h1, h2, ?_⟩
  rcases h with h | ⟨b, off, rfl, hlt, hc⟩
  · exact .inl h
  · exact .inr ⟨b, off, rfl, Nat.lt_of_lt_of_le hlt hb.size, fun t ht => ⟨(hb.cell (by exact hlt)).trans (hc t ht).1, (hb.cell (by exact hlt)).trans (hc t ht).2.1, (hb.cell (by exact hlt)).trans (hc t ht).2.2⟩⟩
/-- numbers of 64 bits -/
def wfM (ms : List Mv) : Prop := ∀ m ∈ ms, (Lit.int .i64 m.1).wf = true ∧ (Lit.int .i64 m.2.1).wf = true ∧ (Lit.int .i64 m.2.2).wf = true
def mvW (n k i j : Int) : Bool := if k = 0 then inB j 1 (wrap64 (n - 1)) && inB i 0 (j - 1) else if k = 1 ∨ k = 2 then inB i 2 n && decide (j = 0) else false
theorem mvW_0 {n i j : Int} : mvW n 0 i j = (inB j 1 (wrap64 (n - 1)) && inB i 0 (j - 1)) := rfl
theorem mvW_12 {n k i j : Int} (h : k = 1 ∨ k = 2) : mvW n k i j = (inB i 2 n && decide (j = 0)) := by
  unfold mvW
  rw [if_neg (by omega), if_pos h]
theorem mvW_no {n k i j : Int} (h : k < 0 ∨ 2 < k) : mvW n k i j = false := by
  unfold mvW
  rw [if_neg (by omega), if_neg (by omega)]
theorem mvW_mvB {n k i j : Int} (h : 0 ≤ n) (h2 : n ≤ 1000) : mvW n k i j = mvB n k i j := by
  unfold mvW mvB
  rw [show wrap64 (n - 1) = n - 1 from IntWalk.wrap64_in _ (by omega)]
theorem wf_range {x : Int} (h : (Lit.int .i64 x).wf = true) : -9223372036854775808 ≤ x ∧ x ≤ 9223372036854775807 := by
  have e1 : IntKind.i64.min = -9223372036854775808 := rfl
  have e2 : IntKind.i64.max = 9223372036854775807 := rfl
  simp only [Lit.wf, Bool.and_eq_true, decide_eq_true_eq, e1, e2] at h
  exact h
theorem moGood_gen (n k i j : Int) (w : World) (hjw : (Lit.int .i64 j).wf = true) :
    Calls Try.prog 77 #[.int .i64 n, .agg #[.int .i64 k, .int .i64 i, .int .i64 j]] w fun e w' => e = .returned (.bool (mvW n k i j)) ∧ Below w.heap.size w w' := by
  have HB := hid ((Below.refl w.heap.size w).alloc (Nat.le_refl _) (mvObj k i j))
  have hjr := wf_range hjw
  clear hjw
  by_cases h0 : k = 0
  · subst h0
    cases hj : inB j 1 (wrap64 (n - 1)) with
    | true =>
      have HJ := hid hj
      have hj2 := (inB_iff.1 hj).1
      have hw2 : IntKind.i64.wrap (j - 1) = j - 1 := IntWalk.i64_in _ (by omega)
      have HV := hid (show mvW n 0 i j = inB i 0 (j - 1) by rw [mvW_0, hj]; rfl)
      clear hj hj2 hjr
      go_enter Try.func77, Try.ntmps77
      go_wp2_with (first | (go_at_call 63; refine (l1In_any _ _ _ _).mono ?_; rintro e w' ⟨rfl, rfl⟩; (try rw [HJ.out])) | fail)
      go_returns
      exact ⟨ret_bool HV.out.symm, HB.out⟩
    | false =>
      have HJ := hid hj
      have HV := hid (show mvW n 0 i j = false by rw [mvW_0, hj]; rfl)
      clear hj hjr
      go_enter Try.func77, Try.ntmps77
      go_wp2_with (first | (go_at_call 63; refine (l1In_any _ _ _ _).mono ?_; rintro e w' ⟨rfl, rfl⟩; (try rw [HJ.out])) | fail)
      go_returns
      exact ⟨ret_bool HV.out.symm, HB.out⟩
  · by_cases h1 : k = 1 ∨ k = 2
    · have HV := hid (mvW_12 (n := n) (i := i) (j := j) h1)
      rcases h1 with rfl | rfl
      all_goals
        cases hi : inB i 2 n with
        | true =>
          have HI := hid hi
          rw [hi, Bool.true_and] at HV
          by_cases hj : j = 0
          · subst hj
            clear hi
            go_enter Try.func77, Try.ntmps77
            go_wp2_with (first | (go_at_call 63; refine (l1In_any _ _ _ _).mono ?_; rintro e w' ⟨rfl, rfl⟩; rw [HI.out]) | fail)
            go_returns
            exact ⟨ret_bool HV.out.symm, HB.out⟩
          · have hjb : (j == 0) = false := by simp [hj]
            rw [decide_eq_false hj] at HV
            clear hi
            go_enter Try.func77, Try.ntmps77
            go_wp2_with (first | (go_at_call 63; refine (l1In_any _ _ _ _).mono ?_; rintro e w' ⟨rfl, rfl⟩; rw [HI.out]) | fail)
            go_returns
            exact ⟨ret_bool HV.out.symm, HB.out⟩
        | false =>
          have HI := hid hi
          rw [hi, Bool.false_and] at HV
          clear hi
          go_enter Try.func77, Try.ntmps77
          go_wp2_with (first | (go_at_call 63; refine (l1In_any _ _ _ _).mono ?_; rintro e w' ⟨rfl, rfl⟩; rw [HI.out]) | fail)
          go_returns
          exact ⟨ret_bool HV.out.symm, HB.out⟩
    · have HV := hid (show mvW n k i j = false from mvW_no (by omega))
      have e0 : (k == 0) = false := by simp; omega
      have e1 : (k == 1) = false := by simp; omega
      have e2 : (k == 2) = false := by simp; omega
      clear h0 h1
      go_enter Try.func77, Try.ntmps77
      go_wp2_with fail
      go_returns
      exact ⟨ret_bool HV.out.symm, HB.out⟩
def mGet (ms : List Mv) (t : Nat) : Mv := ms.getD t (0, 0, 0)
theorem mGet_at {ms : List Mv} {t : Nat} (h : t < ms.length) : mGet ms t = ms[t] := by simp [mGet, List.getD_eq_getElem?_getD, h]
def mvAt (n : Int) (ms : List Mv) (t : Nat) : Bool := mvB n (mGet ms t).1 (mGet ms t).2.1 (mGet ms t).2.2
def mvAtW (n : Int) (ms : List Mv) (t : Nat) : Bool := mvW n (mGet ms t).1 (mGet ms t).2.1 (mGet ms t).2.2
/-- moves of permutations of n, for lists -/
def tkB (n : Int) (ms : List Mv) : Bool := inB n 1 5 && (decide (ms.length ≤ 12) && allTo ms.length (mvAt n ms))
theorem tkB_of (n : Int) (ms : List Mv) : (allTo ms.length (mvAtW n ms) && (inB n 1 5 && decide (ms.length ≤ 12))) = tkB n ms := by
  unfold tkB
  cases hn : inB n 1 5 with
  | false => simp
  | true =>
    have h := inB_iff.1 hn
    have e : mvAtW n ms = mvAt n ms := by
      funext t
      exact mvW_mvB (by omega) (by omega)
    rw [e]
    cases allTo ms.length (mvAt n ms) <;> simp
set_option maxHeartbeats 1000000 in
theorem moTask_any (n : Int) (v : Value) (ms : List Mv) (w : World) (h : ReadsM w v ms) (hw : wfM ms) :
    Calls Try.prog 87 #[.int .i64 n, v] w fun e w' => e = .returned (.bool (tkB n ms)) ∧ Below w.heap.size w w' := by
  obtain ⟨ao, c, rfl, hc1, hcm, h⟩ := h
  unfold maxLen at hcm
  have HT := hid (tkB_of n ms)
  rcases h with h | ⟨b, off, rfl, hb, hc⟩
  · subst h
    have HV := hid (show tkB n [] = inB n 1 5 by rw [tkB]; simp [allTo_zero])
    cases hn : inB n 1 5 with
    | true =>
      have HN := hid hn
      rw [hn] at HV
      clear hn
      go_enter Try.func87, Try.ntmps87
      go_wp2_with fail
      refine wp_loop_rounds 1 ?_
      rw [rounds_succ]
      go_wp2_with (first | (go_at_call 63; refine (l1In_any _ _ _ _).mono ?_; rintro e w' ⟨rfl, rfl⟩; rw [HN.out]) | fail)
      go_returns
      exact ⟨ret_bool HV.out.symm, Below.refl _ _⟩
    | false =>
      have HN := hid hn
      rw [hn] at HV
      clear hn
      go_enter Try.func87, Try.ntmps87
      go_wp2_with fail
      refine wp_loop_rounds 1 ?_
      rw [rounds_succ]
      go_wp2_with (first | (go_at_call 63; refine (l1In_any _ _ _ _).mono ?_; rintro e w' ⟨rfl, rfl⟩; rw [HN.out]) | fail)
      go_returns
      exact ⟨ret_bool HV.out.symm, Below.refl _ _⟩
  · have HC := hid hc
    have HW := hid hw
    clear hc hw
    go_enter Try.func87, Try.ntmps87
    go_wp2_with fail
    go_loopw [9] (fun i wr => ∃ t : Nat, t ≤ ms.length ∧ i = .int .i64 t ∧ allTo t (mvAtW n ms) = true ∧ Below w.heap.size w wr) (fun i _ => ms.length - (intOf i).toNat)
    case atStart => exact ⟨0, Nat.zero_le _, rfl, rfl, Below.refl _ _⟩
    case round =>
      obtain ⟨t, ht, rfl, hall, hbel⟩ := hrel
      have HA := hid hall
      have HB := hid hbel
      clear hall
      by_cases hlt : t < ms.length
      · obtain ⟨h0, h1, h2⟩ := HC.out t hlt
        have hc0 := (hbel.cell (p := ⟨b, off + t * 3, none⟩) (by exact hb)).trans h0
        have hc1' := (hbel.cell (p := ⟨b, off + t * 3 + 1, none⟩) (by exact hb)).trans h1
        have hc2 := (hbel.cell (p := ⟨b, off + t * 3 + 2, none⟩) (by exact hb)).trans h2
        have HK := hid (show mvAtW n ms t = mvW n ms[t].1 ms[t].2.1 ms[t].2.2 by rw [mvAtW, mGet_at hlt])
        have HWT := hid (HW.out _ (List.getElem_mem hlt)).2.2
        obtain ⟨m, hm⟩ : ∃ m, m = ms[t] := ⟨_, rfl⟩
        rw [← hm] at hc0 hc1' hc2 HK HWT
        obtain ⟨k, i, j⟩ := m
        simp only at hc0 hc1' hc2 HK HWT
        clear h0 h1 h2 hbel hm
        cases hg : mvW n k i j with
        | true =>
          have HG := hid hg
          clear hg
          go_wp2_with (first | (go_at_call 77; refine (moGood_gen n k i j _ HWT.out).mono ?_; rintro e w1 ⟨rfl, hb1⟩; rw [HG.out]; have HB1 := hid (Below_chain (HB.out.alloc HB.out.size (mvObj k i j)) hb1); clear hb1) | fail)
          go_roundw
          case rel => exact ⟨t + 1, by omega, by go_num, allTo_next HA.out (HK.out.trans HG.out), HB1.out⟩
          case measure => simp [intOf]; omega
        | false =>
          have HG := hid hg
          clear hg
          go_wp2_with (first | (go_at_call 77; refine (moGood_gen n k i j _ HWT.out).mono ?_; rintro e w1 ⟨rfl, hb1⟩; rw [HG.out]; have HB1 := hid (Below_chain (HB.out.alloc HB.out.size (mvObj k i j)) hb1); clear hb1) | fail)
          go_returns
          exact ⟨ret_bool (by rw [← HT.out, allTo_no hlt (HK.out.trans HG.out)]; rfl), HB1.out⟩
      · obtain rfl : t = ms.length := by omega
        rw [HA.out, Bool.true_and] at HT
        clear hbel
        cases hn : inB n 1 5 with
        | true =>
          have HN := hid hn
          rw [hn, Bool.true_and] at HT
          clear hn
          go_wp2_with (first | (go_at_call 63; refine (l1In_any _ _ _ _).mono ?_; rintro e w' ⟨rfl, rfl⟩; rw [HN.out]) | fail)
          go_returns
          exact ⟨ret_bool (by rw [← HT.out, Bool.eq_iff_iff, decide_eq_true_eq, decide_eq_true_eq]; omega), HB.out⟩
        | false =>
          have HN := hid hn
          rw [hn, Bool.false_and] at HT
          clear hn
          go_wp2_with (first | (go_at_call 63; refine (l1In_any _ _ _ _).mono ?_; rintro e w' ⟨rfl, rfl⟩; rw [HN.out]) | fail)
          go_returns
          exact ⟨ret_bool HT.out, HB.out⟩
end Go.Proofs.Yteenmndgejeihaa

/- Contracts: spec.AreEven, moLists, moWhich. Conditions: the slices read as lists (of moves, of lists). -/
namespace Go.Proofs.Yteenmndgejeihaa
open Go.RowKit
set_option linter.unusedVariables false

theorem mvB_mono {n m k i j : Int} (h : mvB n k i j = true) (hm : n ≤ m) : mvB m k i j = true := by
  unfold mvB at h ⊢
  split
  · rw [if_pos (by assumption), Bool.and_eq_true, inB_iff, inB_iff] at h
    rw [Bool.and_eq_true, inB_iff, inB_iff]
    omega
  · rw [if_neg (by assumption)] at h
    split
    · rw [if_pos (by assumption), Bool.and_eq_true, inB_iff, decide_eq_true_eq] at h
      rw [Bool.and_eq_true, inB_iff, decide_eq_true_eq]
      omega
    · rw [if_neg (by assumption)] at h
      exact h
theorem tk_parts {n : Int} {ms : List Mv} (h : tkB n ms = true) : 1 ≤ n ∧ n ≤ 5 ∧ ms.length ≤ 12 ∧ ∀ t, t < ms.length → mvAt n ms t = true := by
  simp only [tkB, Bool.and_eq_true, decide_eq_true_eq, inB_iff, allTo_iff] at h
  exact ⟨h.1.1, h.1.2, h.2.1, h.2.2⟩
def evAt (ms : List Mv) (t : Nat) : Bool := decide (0 ≤ sgV (mGet ms t).1 (mGet ms t).2.1 (mGet ms t).2.2)
def aeV (n : Int) (ms : List Mv) : Bool := tkB n ms && allTo ms.length (evAt ms)
set_option maxHeartbeats 1000000 in
theorem spec_AreEven_any (n : Int) (v : Value) (ms : List Mv) (w : World) (h : ReadsM w v ms) (hw : wfM ms) :
    Calls Try.prog 56 #[.int .i64 n, v] w fun e w' => e = .returned (.tuple #[.bool (aeV n ms), .bool (tkB n ms)]) ∧ Below w.heap.size w w' := by
  have HRM := hid h
  have HW := hid hw
  obtain ⟨ao, c, rfl, hc1, hcm, h⟩ := h
  unfold maxLen at hcm
  cases ht : tkB n ms with
  | false =>
    have HT := hid ht
    have HV := hid (show aeV n ms = false by rw [aeV, ht]; rfl)
    clear ht h hw
    go_enter Try.func56, Try.ntmps56
    go_wp2_with (first | (go_at_call 87; refine (moTask_any n _ ms _ HRM.out HW.out).mono ?_; rintro e w1 ⟨rfl, hb1⟩; rw [HT.out]; have HB1 := hid hb1; clear hb1) | fail)
    go_ret2
    exact ⟨ret_bb4 HV.out.symm rfl, HB1.out⟩
  | true =>
    have HT := hid ht
    have HV := hid (show aeV n ms = allTo ms.length (evAt ms) by rw [aeV, ht]; rfl)
    have HTP := hid (tk_parts ht)
    rcases h with h | ⟨b, off, rfl, hb, hc⟩
    · subst h
      have HV2 := hid (show aeV n [] = true by rw [HV.out]; rfl)
      clear ht hw
      go_enter Try.func56, Try.ntmps56
      go_wp2_with (first | (go_at_call 87; refine (moTask_any n _ [] _ HRM.out HW.out).mono ?_; rintro e w1 ⟨rfl, hb1⟩; rw [HT.out]; have HB1 := hid hb1; clear hb1) | fail)
      refine wp_loop_rounds 1 ?_
      rw [rounds_succ]
      go_wp2_with fail
      go_ret2
      exact ⟨ret_bb4 HV2.out.symm rfl, HB1.out⟩
    · have HC := hid hc
      clear hc hw ht
      go_enter Try.func56, Try.ntmps56
      go_wp2_with (first | (go_at_call 87; refine (moTask_any n _ ms _ HRM.out HW.out).mono ?_; rintro e w1 ⟨rfl, hb1⟩; rw [HT.out]; have HB1 := hid hb1; clear hb1) | fail)
      go_loopw [14] (fun i wr => ∃ t : Nat, t ≤ ms.length ∧ i = .int .i64 t ∧ allTo t (evAt ms) = true ∧ Below w.heap.size w wr) (fun i _ => ms.length - (intOf i).toNat)
      case atStart => exact ⟨0, Nat.zero_le _, rfl, rfl, HB1.out⟩
      case round =>
        obtain ⟨t, ht, rfl, hall, hbel⟩ := hrel
        have HA := hid hall
        have HB := hid hbel
        clear hall
        by_cases hlt : t < ms.length
        · obtain ⟨h0, h1, h2⟩ := HC.out t hlt
          have hc0 := (hbel.cell (p := ⟨b, off + t * 3, none⟩) (by exact hb)).trans h0
          have hc1' := (hbel.cell (p := ⟨b, off + t * 3 + 1, none⟩) (by exact hb)).trans h1
          have hc2 := (hbel.cell (p := ⟨b, off + t * 3 + 2, none⟩) (by exact hb)).trans h2
          have hmt := HTP.out.2.2.2 t hlt
          rw [mvAt, mGet_at hlt] at hmt
          have HK := hid (show evAt ms t = decide (0 ≤ sgV ms[t].1 ms[t].2.1 ms[t].2.2) by rw [evAt, mGet_at hlt])
          obtain ⟨m, hm⟩ : ∃ m, m = ms[t] := ⟨_, rfl⟩
          rw [← hm] at hc0 hc1' hc2 HK hmt
          obtain ⟨k, i, j⟩ := m
          simp only at hc0 hc1' hc2 HK hmt
          have HM := hid (mvB_mono hmt (show n ≤ 12 by have := HTP.out.2.1; omega))
          obtain ⟨s, hs⟩ : ∃ s, s = sgV k i j := ⟨_, rfl⟩
          have HS := hid hs
          rw [← hs] at HK
          clear h0 h1 h2 hbel hm hs hmt
          by_cases hneg : s < 0
          · have HKF := hid (show evAt ms t = false by rw [HK.out]; simp; omega)
            go_wp2_with (first | (go_at_call 81; refine (moSign_any k i j _ HM.out).mono ?_; rintro e w2 ⟨rfl, hb2⟩; rw [← HS.out]; have HB2 := hid (Below_chain (HB.out.alloc HB.out.size (mvObj k i j)) hb2); clear hb2) | fail)
            go_ret2
            exact ⟨ret_bb4 (by rw [HV.out, allTo_no hlt HKF.out]) rfl, HB2.out⟩
          · have HKT := hid (show evAt ms t = true by rw [HK.out]; simp; omega)
            go_wp2_with (first | (go_at_call 81; refine (moSign_any k i j _ HM.out).mono ?_; rintro e w2 ⟨rfl, hb2⟩; rw [← HS.out]; have HB2 := hid (Below_chain (HB.out.alloc HB.out.size (mvObj k i j)) hb2); clear hb2) | fail)
            go_roundw
            case rel => exact ⟨t + 1, by omega, by go_num, allTo_next HA.out HKT.out, HB2.out⟩
            case measure => simp [intOf]; omega
        · obtain rfl : t = ms.length := by omega
          clear hbel
          go_wp2_with fail
          go_ret2
          exact ⟨ret_bb4 (by rw [HV.out, HA.out]) rfl, HB.out⟩
def plAt (n : Int) (L : List (List Int)) (t : Nat) : Bool := decide (((L.getD t []).length : Int) = n) && permB (L.getD t [])
/-- at most 1100 permutations of n -/
def plB (n : Int) (L : List (List Int)) : Bool := allTo L.length (plAt n L) && decide (L.length ≤ 1100)
theorem getDM {L : List (List Int)} {i : Nat} (h : i < L.length) : L.getD i [] = L[i] := by simp [List.getD_eq_getElem?_getD, h]
set_option maxHeartbeats 1000000 in
theorem moLists_any (n : Int) (v : Value) (L : List (List Int)) (base : Nat) (w : World) (h : Lists w base v L) :
    Calls Try.prog 88 #[.int .i64 n, v] w fun e w' => e = .returned (.bool (plB n L)) ∧ w = w' := by
  rcases h.form with ⟨rfl, rfl⟩ | ⟨g, cap, rfl, _, hg, hc1, hm, hc⟩
  · go_enter Try.func88, Try.ntmps88
    go_wp2_with fail
    refine wp_loop_rounds 1 ?_
    rw [rounds_succ]
    go_wp2_with fail
    go_returns
    exact ⟨rfl, rfl⟩
  · have HC := hid hc
    clear hc h
    go_enter Try.func88, Try.ntmps88
    go_wp2_with fail
    go_loop [9] (fun i => ∃ k : Nat, k ≤ L.length ∧ i = .int .i64 k ∧ allTo k (plAt n L) = true) (fun i => L.length - (intOf i).toNat)
    case atStart => exact ⟨0, Nat.zero_le _, rfl, rfl⟩
    case round =>
      obtain ⟨k, hk, rfl, hall⟩ := hrel
      have HA := hid hall
      clear hall
      by_cases hlt : k < L.length
      · obtain ⟨z, hz, hown⟩ := HC.out k hlt
        have HZ := hid hown.reads
        obtain ⟨l, hl⟩ : ∃ l, l = L[k] := ⟨_, rfl⟩
        have HK := hid (show plAt n L k = (decide ((l.length : Int) = n) && permB l) by rw [plAt, getDM hlt, hl])
        have hcx : w.cell? ⟨g, k, none⟩ = some z := hz
        rw [← hl] at HZ
        obtain ⟨ao, cz, hze⟩ : ∃ ao cz, z = .slice ao l.length cz := by
          obtain ⟨ao, cz, e, _⟩ := HZ.out
          exact ⟨ao, cz, e⟩
        subst hze
        clear hz hown hl
        by_cases hln : (l.length : Int) = n
        · have hb1 : ((l.length : Int) != n) = false := by simp [hln]
          have HLN := hid hln
          clear hln
          cases hp : permB l with
          | true =>
            have HP := hid hp
            have HT := hid (show plAt n L k = true by rw [HK.out, hp, decide_eq_true HLN.out]; rfl)
            clear hp
            go_wp2_with (first | (go_at_call 70; refine (raPermutation_any _ l _ HZ.out).mono ?_; rintro e w' ⟨rfl, rfl⟩; rw [HP.out]) | fail)
            go_round
            case rel => exact ⟨k + 1, by omega, by go_num, allTo_next HA.out HT.out⟩
            case measure => simp [intOf]; omega
          | false =>
            have HP := hid hp
            have HT := hid (show plAt n L k = false by rw [HK.out, hp, Bool.and_false])
            clear hp
            go_wp2_with (first | (go_at_call 70; refine (raPermutation_any _ l _ HZ.out).mono ?_; rintro e w' ⟨rfl, rfl⟩; rw [HP.out]) | fail)
            go_returns
            exact ⟨ret_bool (by rw [plB, allTo_no hlt HT.out]; rfl), rfl⟩
        · have hb1 : ((l.length : Int) != n) = true := by simp [hln]
          have HT := hid (show plAt n L k = false by rw [HK.out, decide_eq_false hln]; rfl)
          clear hln
          go_wp2_with fail
          go_returns
          exact ⟨ret_bool (by rw [plB, allTo_no hlt HT.out]; rfl), rfl⟩
      · obtain rfl : k = L.length := by omega
        go_wp2_with fail
        go_returns
        exact ⟨ret_bool (by rw [plB, HA.out, Bool.true_and, Bool.eq_iff_iff, decide_eq_true_eq, decide_eq_true_eq]; omega), rfl⟩
end Go.Proofs.Yteenmndgejeihaa

/- Contracts: moWhich, moAll. Conditions: the slices read as lists (of moves, of lists). -/
namespace Go.Proofs.Yteenmndgejeihaa
open Go.RowKit
set_option linter.unusedVariables false

/-- the first number from t on, of r, at which p holds, or -1 -/
def firstI (p : Nat → Bool) : Nat → Nat → Int
  | _, 0 => -1
  | t, r + 1 => if p t = true then (t : Int) else firstI p (t + 1) r
theorem firstI_hit {p : Nat → Bool} {t r : Nat} (h : p t = true) : firstI p t (r + 1) = t := by rw [firstI, if_pos h]
theorem firstI_miss {p : Nat → Bool} {t r : Nat} (h : p t = false) : firstI p t (r + 1) = firstI p (t + 1) r := by rw [firstI, if_neg (by rw [h]; simp)]
theorem firstI_range (p : Nat → Bool) : ∀ r t, -1 ≤ firstI p t r ∧ firstI p t r < (t + r : Nat)
  | 0, t => by simp [firstI]; omega
  | r + 1, t => by
    have := firstI_range p r (t + 1)
    rw [firstI]
    split <;> omega
def ldsAt (a b : List Int) (ms : List Mv) (t : Nat) : Bool := decide (mvL (mGet ms t).1 (mGet ms t).2.1 (mGet ms t).2.2 a = b)
/-- which move leads from a to b, or -1 -/
def whI (a b : List Int) (ms : List Mv) : Int := firstI (ldsAt a b ms) 0 ms.length
theorem ret_int4 {a b : Int} (h : a = b) : Ending.returned (.int .i64 a) = Ending.returned (.int .i64 b) := by rw [h]
set_option maxHeartbeats 1000000 in
theorem moWhich_any (va vb v : Value) (a b : List Int) (ms : List Mv) (w : World) (ha : Reads w va a) (hb : Reads w vb b) (h : ReadsM w v ms) (hl : a.length ≤ 1000) (hg : ∀ t, t < ms.length → mvAt a.length ms t = true) :
    Calls Try.prog 120 #[va, vb, v] w fun e w' => e = .returned (.int .i64 (whI a b ms)) ∧ Below w.heap.size w w' := by
  have HRA := hid ha
  have HRB := hid hb
  have HG := hid hg
  obtain ⟨ao1, c1, rfl, _, _, _⟩ := ha.view
  obtain ⟨ao2, c2, rfl, _, _, _⟩ := hb.view
  obtain ⟨ao, c, rfl, hc1, hcm, h⟩ := h
  unfold maxLen at hcm
  clear ha hb hg
  rcases h with h | ⟨bb, off, rfl, hbb, hc⟩
  · subst h
    go_enter Try.func120, Try.ntmps120
    go_wp2_with fail
    refine wp_loop_rounds 1 ?_
    rw [rounds_succ]
    go_wp2_with fail
    go_returns
    exact ⟨rfl, Below.refl _ _⟩
  · have HC := hid hc
    clear hc
    go_enter Try.func120, Try.ntmps120
    go_wp2_with fail
    go_loopw [11] (fun i wr => ∃ t : Nat, t ≤ ms.length ∧ i = .int .i64 t ∧ whI a b ms = firstI (ldsAt a b ms) t (ms.length - t) ∧ Below w.heap.size w wr) (fun i _ => ms.length - (intOf i).toNat)
    case atStart => exact ⟨0, Nat.zero_le _, rfl, rfl, Below.refl _ _⟩
    case round =>
      obtain ⟨t, ht, rfl, hall, hbel⟩ := hrel
      have HA := hid hall
      have HB := hid hbel
      clear hall
      by_cases hlt : t < ms.length
      · obtain ⟨h0, h1, h2⟩ := HC.out t hlt
        have hc0 := (hbel.cell (p := ⟨bb, off + t * 3, none⟩) (by exact hbb)).trans h0
        have hc1' := (hbel.cell (p := ⟨bb, off + t * 3 + 1, none⟩) (by exact hbb)).trans h1
        have hc2 := (hbel.cell (p := ⟨bb, off + t * 3 + 2, none⟩) (by exact hbb)).trans h2
        have hmt := HG.out t hlt
        rw [mvAt, mGet_at hlt] at hmt
        have HK := hid (show ldsAt a b ms t = decide (mvL ms[t].1 ms[t].2.1 ms[t].2.2 a = b) by rw [ldsAt, mGet_at hlt])
        obtain ⟨m, hm⟩ : ∃ m, m = ms[t] := ⟨_, rfl⟩
        rw [← hm] at hc0 hc1' hc2 HK hmt
        obtain ⟨k, i, j⟩ := m
        simp only at hc0 hc1' hc2 HK hmt
        have HM := hid hmt
        have hba := (Below.refl wr.heap.size wr).alloc (Nat.le_refl _) (mvObj k i j)
        have HRA1 := hid (HRA.out.below (Below_chain HB.out hba))
        have HRB1 := hid (HRB.out.below (Below_chain HB.out hba))
        have HB0 := hid (Below_chain HB.out hba)
        have HR1 := hid (show ms.length - t = (ms.length - (t + 1)) + 1 by omega)
        clear h0 h1 h2 hbel hm hmt hba
        cases hs : ldsAt a b ms t with
        | true =>
          have HF := hid (show whI a b ms = (t : Int) by rw [HA.out, HR1.out, firstI_hit hs])
          rw [hs] at HK
          clear hs
          go_wp2_with (first
            | (go_at_call 79; refine (moApply_any _ a k i j _ HRA1.out hl HM.out).mono ?_; rintro e w2 ⟨u, rfl, ho2, hb2⟩; have HR2 := hid ho2.reads; have HRB2 := hid (HRB1.out.below hb2); have HB2 := hid (Below_chain HB0.out hb2); clear ho2 hb2)
            | (go_at_call 85; refine (l1Same_any _ _ (mvL k i j a) b _ HR2.out HRB2.out).mono ?_; rintro e w3 ⟨rfl, hb3⟩; rw [← HK.out]; have HB3 := hid (Below_chain HB2.out hb3); clear hb3)
            | fail)
          go_returns
          exact ⟨ret_int4 HF.out.symm, HB3.out⟩
        | false =>
          have HF := hid (show whI a b ms = firstI (ldsAt a b ms) (t + 1) (ms.length - (t + 1)) by rw [HA.out, HR1.out, firstI_miss hs])
          rw [hs] at HK
          clear hs
          go_wp2_with (first
            | (go_at_call 79; refine (moApply_any _ a k i j _ HRA1.out hl HM.out).mono ?_; rintro e w2 ⟨u, rfl, ho2, hb2⟩; have HR2 := hid ho2.reads; have HRB2 := hid (HRB1.out.below hb2); have HB2 := hid (Below_chain HB0.out hb2); clear ho2 hb2)
            | (go_at_call 85; refine (l1Same_any _ _ (mvL k i j a) b _ HR2.out HRB2.out).mono ?_; rintro e w3 ⟨rfl, hb3⟩; rw [← HK.out]; have HB3 := hid (Below_chain HB2.out hb3); clear hb3)
            | fail)
          go_roundw
          case rel => exact ⟨t + 1, by omega, by go_num, HF.out, HB3.out⟩
          case measure => simp [intOf]; omega
      · obtain rfl : t = ms.length := by omega
        have HF := hid (show whI a b ms = -1 by rw [HA.out, Nat.sub_self]; rfl)
        clear hbel
        go_wp2_with fail
        go_returns
        exact ⟨ret_int4 HF.out.symm, HB.out⟩
/-- The beginning of a list of lists. -/
theorem Lists.take {w : World} {base g cap : Nat} {L : List (List Int)} (h : Lists w base (.slice (some ⟨g, 0, none⟩) L.length cap) L) (k : Nat) (hk : k ≤ L.length) : Lists w base (.slice (some ⟨g, 0, none⟩) k cap) (L.take k) := by
  obtain ⟨vs, h1, h2, h3⟩ := h
  have hl : (L.take k).length = k := by simp; omega
  refine ⟨vs.take k, by simp [h1], ?_, fun i a b => ?_⟩
  · rw [hl]
    refine ⟨by simp; omega, ?_⟩
    rcases h2.2 with ⟨hn, _⟩ | ⟨g', cap', cur, e, hg, hgg, p1, p2, p3, p4⟩
    · simp at hn
    · simp only [Value.slice.injEq, Option.some.injEq, Addr.mk.injEq, and_true] at e
      obtain ⟨rfl, _, rfl⟩ := e
      refine .inr ⟨g, cap, cur, rfl, hg, hgg, by omega, p2, p3, ?_⟩
      have h5 := congrArg (List.take k) p4
      rw [List.take_take, Nat.mul_one, Nat.min_eq_left hk] at h5
      rw [Nat.mul_one, h5]
  · rw [List.getElem_take, List.getElem_take]
    exact h3 i (by rw [hl] at a; omega) (by simp at b; omega)
def newAt (L : List (List Int)) (t : Nat) : Bool := decide (placeIn (L.getD t []) (L.take t) < 0)
/-- all permutations of n, each once -/
def alB (n : Nat) (L : List (List Int)) : Bool := allTo L.length (newAt L) && decide (L.length = fact n)
set_option maxHeartbeats 1000000 in
theorem moAll_any (n : Nat) (v : Value) (L : List (List Int)) (base : Nat) (w : World) (h : Lists w base v L) (hn : n < 13) :
    Calls Try.prog 90 #[.int .i64 n, v] w fun e w' => e = .returned (.bool (alB n L)) ∧ Below w.heap.size w w' := by
  have HL := hid h
  rcases h.form with ⟨rfl, rfl⟩ | ⟨g, cap, rfl, _, hg, hc1, hm, hc⟩
  · have hf : ((0 : Int) == (fact n : Int)) = decide ((0 : Nat) = fact n) := by rw [Bool.eq_iff_iff]; simp; omega
    have HV := hid (show alB n [] = decide ((0 : Nat) = fact n) by rw [alB]; simp [allTo_zero])
    go_enter Try.func90, Try.ntmps90
    go_wp2_with fail
    refine wp_loop_rounds 1 ?_
    rw [rounds_succ]
    go_wp2_with (first | (go_at_call 64; refine (raFactorial_any n _ hn).mono ?_; rintro e w' ⟨rfl, rfl⟩) | fail)
    go_returns
    exact ⟨ret_bool (by rw [HV.out] <;> first | exact hf | simp), Below.refl _ _⟩
  · have HC := hid hc
    clear hc h
    go_enter Try.func90, Try.ntmps90
    go_wp2_with fail
    go_loopw [9] (fun i wr => ∃ k : Nat, k ≤ L.length ∧ i = .int .i64 k ∧ allTo k (newAt L) = true ∧ Below w.heap.size w wr) (fun i _ => L.length - (intOf i).toNat)
    case atStart => exact ⟨0, Nat.zero_le _, rfl, rfl, Below.refl _ _⟩
    case round =>
      obtain ⟨k, hk, rfl, hall, hbel⟩ := hrel
      have HA := hid hall
      have HB := hid hbel
      clear hall
      by_cases hlt : k < L.length
      · obtain ⟨z, hz, hown⟩ := HC.out k hlt
        have hcx : wr.cell? ⟨g, k, none⟩ = some z := (hbel.cell (by exact hg)).trans hz
        have HZ := hid (hown.reads.below hbel)
        obtain ⟨l, hl⟩ : ∃ l, l = L[k] := ⟨_, rfl⟩
        have HK := hid (show newAt L k = decide (placeIn l (L.take k) < 0) by rw [newAt, getDM hlt, hl])
        rw [← hl] at HZ
        have HLT := hid ((HL.out.take k (by omega)).below hbel)
        obtain ⟨q, hq⟩ : ∃ q, q = placeIn l (L.take k) := ⟨_, rfl⟩
        have HQ := hid hq
        rw [← hq] at HK
        have e0 : (0 : Int) ≤ (k : Int) := by omega
        have e1 : (k : Int) ≤ (cap : Int) := by omega
        have e2 : k ≤ cap := by omega
        clear hz hown hl hbel hq
        by_cases hneg : q < 0
        · have HT := hid (show newAt L k = true by rw [HK.out, decide_eq_true hneg])
          have hge : ¬ 0 ≤ q := by omega
          go_wp2_with (first | (go_at_call 121; refine (raPlace_any _ _ (L.take k) l _ _ HLT.out HZ.out).mono ?_; rintro e w2 ⟨rfl, hb2⟩; rw [← HQ.out]; have HB2 := hid (Below_chain HB.out hb2); clear hb2) | fail)
          go_roundw
          case rel => exact ⟨k + 1, by omega, by go_num, allTo_next HA.out HT.out, HB2.out⟩
          case measure => simp [intOf]; omega
        · have HT := hid (show newAt L k = false by rw [HK.out, decide_eq_false hneg])
          have hge : 0 ≤ q := by omega
          go_wp2_with (first | (go_at_call 121; refine (raPlace_any _ _ (L.take k) l _ _ HLT.out HZ.out).mono ?_; rintro e w2 ⟨rfl, hb2⟩; rw [← HQ.out]; have HB2 := hid (Below_chain HB.out hb2); clear hb2) | fail)
          go_returns
          exact ⟨ret_bool (by rw [alB, allTo_no hlt HT.out]; rfl), HB2.out⟩
      · obtain rfl : k = L.length := by omega
        clear hbel
        have hf : ((L.length : Int) == (fact n : Int)) = decide (L.length = fact n) := by rw [Bool.eq_iff_iff]; simp; omega
        have HV := hid (show alB n L = decide (L.length = fact n) by rw [alB, HA.out, Bool.true_and])
        go_wp2_with (first | (go_at_call 64; refine (raFactorial_any n _ hn).mono ?_; rintro e w' ⟨rfl, rfl⟩) | fail)
        go_returns
        exact ⟨ret_bool (by rw [HV.out]; try exact hf), HB.out⟩
end Go.Proofs.Yteenmndgejeihaa

/- Contracts: moSteps, spec.IsMoveList, spec.MovesOf. Conditions: the slices read as lists (of moves, of lists). -/
namespace Go.Proofs.Yteenmndgejeihaa
open Go.RowKit
set_option linter.unusedVariables false

theorem allTo_le {n m : Nat} {p : Nat → Bool} (h : allTo n p = true) (hm : m ≤ n) : allTo m p = true := (allTo_iff _ _).2 (fun i hi => (allTo_iff _ _).1 h i (by omega))
def stAt (L : List (List Int)) (ms : List Mv) (i : Nat) : Int := whI (L.getD i []) (L.getD (i + 1) []) ms
def stOk (L : List (List Int)) (ms : List Mv) (i : Nat) : Bool := decide (0 ≤ stAt L ms i)
def stB (L : List (List Int)) (ms : List Mv) : Bool := allTo (L.length - 1) (stOk L ms)
def stL (L : List (List Int)) (ms : List Mv) (j : Nat) : List Int := (List.range j).map (stAt L ms)
theorem stL_succ (L : List (List Int)) (ms : List Mv) (j : Nat) : stL L ms (j + 1) = stL L ms j ++ [stAt L ms j] := by
  unfold stL
  rw [List.range_succ, List.map_append]
  rfl
theorem stL_len (L : List (List Int)) (ms : List Mv) (j : Nat) : (stL L ms j).length = j := by simp [stL]
def stRes (L : List (List Int)) (ms : List Mv) : List Int := if stB L ms = true then stL L ms (L.length - 1) else []
set_option maxHeartbeats 1000000 in
set_option maxRecDepth 4000 in
theorem moSteps_any (n : Nat) (v u : Value) (L : List (List Int)) (ms : List Mv) (base : Nat) (w : World) (h : Lists w base v L) (hm : ReadsM w u ms) (hn : n ≤ 1000) (hL : L.length ≤ 100000) (hln : ∀ t, t < L.length → (L.getD t []).length = n) (hg : ∀ t, t < ms.length → mvAt n ms t = true) :
    Calls Try.prog 89 #[v, u] w fun e w' => ∃ r, e = .returned (.tuple #[r, .bool (stB L ms)]) ∧ Own w' w.heap.size r (stRes L ms) ∧ Below w.heap.size w w' := by
  have HRM := hid hm
  have HG := hid hg
  have HLN := hid hln
  obtain ⟨i0, hi, hz0, hz1, hz2⟩ := info_parts Try.info3
  obtain ⟨aou, cu, rfl, _, _, _⟩ := hm
  clear hg hln
  rcases h.form with ⟨rfl, rfl⟩ | ⟨g, cap, rfl, _, hgw, hc1, hcm, hc⟩
  · go_enter Try.func89, Try.ntmps89
    go_wp2_with fail
    refine wp_loop_rounds 1 ?_
    rw [rounds_succ]
    go_wp2_with fail
    go_ret2
    exact ⟨_, rfl, Own.nil _ _, Below.refl _ _⟩
  · have HC := hid hc
    clear hc h
    go_enter Try.func89, Try.ntmps89
    go_wp2_with fail
    go_loopw [6, 7] (fun ov i wr => ∃ j : Nat, (j + 1 ≤ L.length ∨ L.length = 0 ∧ j = 0) ∧ j ≤ 100000 ∧ i = .int .i64 ((j : Int) + 1) ∧ allTo j (stOk L ms) = true ∧ Own wr w.heap.size ov (stL L ms j) ∧ Below w.heap.size w wr) (fun _ i _ => L.length - (intOf i).toNat)
    case atStart => exact ⟨0, by omega, by omega, rfl, rfl, Own.nil _ _, Below.refl _ _⟩
    case round =>
      obtain ⟨j, hj, hj2, rfl, hall, hown, hbel⟩ := hrel
      have HA := hid hall
      have HO := hid hown
      have HB := hid hbel
      have hsz := hbel.size
      clear hall
      by_cases hlt : j + 1 < L.length
      · obtain ⟨z, hz, hzo⟩ := HC.out j (by omega)
        obtain ⟨z', hz', hzo'⟩ := HC.out (j + 1) hlt
        have hcx : wr.cell? ⟨g, j, none⟩ = some z := (hbel.cell (by exact hgw)).trans hz
        have hcy : wr.cell? ⟨g, j + 1, none⟩ = some z' := (hbel.cell (by exact hgw)).trans hz'
        have HZ := hid (hzo.reads.below hbel)
        have HZ' := hid (hzo'.reads.below hbel)
        obtain ⟨a, ha⟩ : ∃ a, a = L[j] := ⟨_, rfl⟩
        obtain ⟨b, hb⟩ : ∃ b, b = L[j + 1] := ⟨_, rfl⟩
        have hal : a.length = n := by rw [ha, ← getDM (by omega)]; exact HLN.out j (by omega)
        have HAL := hid hal
        rw [← ha] at HZ
        rw [← hb] at HZ'
        have HK := hid (show stAt L ms j = whI a b ms by rw [stAt, getDM (by omega), getDM hlt, ha, hb])
        have hrg := firstI_range (ldsAt a b ms) ms.length 0
        obtain ⟨q, hq⟩ : ∃ q, q = whI a b ms := ⟨_, rfl⟩
        have HQ := hid hq
        rw [← hq] at HK
        have HRM1 := hid (HRM.out.below hbel)
        have HGA := hid (show ∀ t, t < ms.length → mvAt a.length ms t = true by rw [hal]; exact HG.out)
        have h0k : (0 : Int) ≤ (j : Int) := by omega
        have hkl : (j : Int) < (L.length : Int) := by omega
        have h0k2 : (0 : Int) ≤ (j : Int) + 1 := by omega
        have hkl2 : (j : Int) + 1 < (L.length : Int) := by omega
        have hww : IntKind.i64.wrap ((j : Int) + 1 - 1) = (j : Int) := by rw [show (j : Int) + 1 - 1 = j by omega]; exact IntWalk.i64_in _ (by omega)
        have hwj : IntKind.i64.wrap (j : Int) = (j : Int) := IntWalk.i64_in _ (by omega)
        have htn : ((j : Int) + 1).toNat = j + 1 := by omega
        have hgr : g < wr.heap.size := Nat.lt_of_lt_of_le hgw hsz
        clear hz hz' hzo hzo' ha hb hal hq hown hbel
        by_cases hneg : q < 0
        · have HT := hid (show stOk L ms j = false by rw [stOk, HK.out, decide_eq_false (by omega)])
          have HF := hid (show stB L ms = false from allTo_no (by omega) HT.out)
          have HR := hid (show stRes L ms = [] by unfold stRes; rw [if_neg (by rw [HF.out]; simp)])
          go_wp2_with fail
          go_region_held3 (fun w' => w'.cell? ⟨g, j, none⟩ = some z ∧ w'.cell? ⟨g, j + 1, none⟩ = some z')
            (first | exact ⟨hcx, hcy⟩ | exact ⟨((show Below wr.heap.size wr w1 from HB1.out).cell (by exact hgr)).trans hcx, ((show Below wr.heap.size wr w1 from HB1.out).cell (by exact hgr)).trans hcy⟩ | go_keep | fail)
            (first
              | (go_at_call 120; refine (moWhich_any _ _ _ a b ms _ ?_ ?_ ?_ ?_ HGA.out).mono ?_; (exact HZ.out.below (Below.refl _ _).drew); (exact HZ'.out.below (Below.refl _ _).drew); (exact HRM1.out.below (Below.refl _ _).drew); (rw [HAL.out]; exact hn); rintro e w1 ⟨rfl, hb1⟩; rw [← HQ.out]; have HB1 := hid ((Below.refl _ _).drew.trans hb1 : Below wr.heap.size wr w1); clear hb1)
              | fail)
          all_goals
            go_wp2_with fail
            go_ret2
            exact ⟨_, ret_sbA HF.out.symm, by rw [HR.out]; exact Own.nil _ _, Below_chain HB.out HB1.out⟩
        · have HT := hid (show stOk L ms j = true by rw [stOk, HK.out, decide_eq_true (by omega)])
          have HNX := hid (show stL L ms (j + 1) = stL L ms j ++ [q] by rw [stL_succ, HK.out])
          obtain ⟨l, hl2⟩ : ∃ l, l = stL L ms j := ⟨_, rfl⟩
          have HLL := hid (show l.length = j by rw [hl2, stL_len])
          have hll : l.length ≤ 100000 := by rw [HLL.out]; omega
          rw [← hl2] at HO HNX
          clear hl2
          go_wp2_with fail
          go_region_held3 (fun w' => w'.cell? ⟨g, j, none⟩ = some z ∧ w'.cell? ⟨g, j + 1, none⟩ = some z')
            (first | exact ⟨hcx, hcy⟩ | exact ⟨((show Below wr.heap.size wr w1 from HB1.out).cell (by exact hgr)).trans hcx, ((show Below wr.heap.size wr w1 from HB1.out).cell (by exact hgr)).trans hcy⟩ | go_keep | fail)
            (first
              | (go_at_call 120; refine (moWhich_any _ _ _ a b ms _ ?_ ?_ ?_ ?_ HGA.out).mono ?_; (exact HZ.out.below (Below.refl _ _).drew); (exact HZ'.out.below (Below.refl _ _).drew); (exact HRM1.out.below (Below.refl _ _).drew); (rw [HAL.out]; exact hn); rintro e w1 ⟨rfl, hb1⟩; rw [← HQ.out]; have HB1 := hid ((Below.refl _ _).drew.trans hb1 : Below wr.heap.size wr w1); have HO1 := hid (HO.out.below HB1.out); have HB2 := hid (Below_chain HB.out HB1.out); clear hb1)
              | fail)
          all_goals
            have hs1 := HB2.out.size
            go_wp2_with (first
              | (at_builtin; refine wpList_append_own _ rfl _ _ 22 rfl w.heap.size 3 i0 (.int .i64 0) 1 8 Try.underlying22 hi hz0 hz1 hz2 rfl (by decide) _ _ _ rfl (World.ownsRow.alloc HO1.out.row _) ⟨w1.heap.size, 0, none⟩ 1 1 [.int .i64 q] rfl rfl (fun j y hj => new_cell1 j hj) (ints_one [q]) (by unfold maxLen; omega) (by omega) (by simp; omega) ?_; intro v2 w2 hown2 hgrow2 hn2; have HO2 := hid (Own.snoc hown2); have HB3 := hid ((HB2.out.alloc hs1 (.cells #[.int .i64 q] 3)).grown hgrow2 (by simp; omega) (fun q hq => (World.ownsRow.lt HO1.out q hq).1)); clear hown2 hgrow2 hn2)
              | fail)
            go_roundw
            case rel => exact ⟨j + 1, by omega, by omega, by go_num, allTo_next HA.out HT.out, by rw [HNX.out]; exact HO2.out, HB3.out⟩
            case measure => simp [intOf]; omega
      · have HF := hid (show stB L ms = true from allTo_le HA.out (by omega))
        have hjl : j = L.length - 1 := by omega
        have HR := hid (show stRes L ms = stL L ms j by unfold stRes; rw [if_pos HF.out, hjl])
        clear hown hbel hjl
        go_wp2_with fail
        go_ret2
        exact ⟨_, ret_sbA HF.out.symm, by rw [HR.out]; exact HO.out, HB.out⟩
end Go.Proofs.Yteenmndgejeihaa

/- Contracts: spec.IsMoveList, spec.MovesOf. Conditions: the slices read as lists (of lists, of moves of 64 bits). -/
namespace Go.Proofs.Yteenmndgejeihaa
open Go.RowKit
set_option linter.unusedVariables false

def mlOk (n : Int) (L : List (List Int)) (ms : List Mv) : Bool := tkB n ms && plB n L
def imlV (n : Int) (L : List (List Int)) (ms : List Mv) : Bool := mlOk n L ms && (stB L ms && alB n.toNat L)
def mofB (n : Int) (L : List (List Int)) (ms : List Mv) : Bool := mlOk n L ms && stB L ms
def mofRes (n : Int) (L : List (List Int)) (ms : List Mv) : List Int := if mlOk n L ms = true then stRes L ms else []
theorem pl_parts {n : Int} {L : List (List Int)} (h : plB n L = true) : L.length ≤ 1100 ∧ ∀ t, t < L.length → ((L.getD t []).length : Int) = n ∧ permB (L.getD t []) = true := by
  simp only [plB, plAt, Bool.and_eq_true, decide_eq_true_eq, allTo_iff] at h
  exact ⟨h.2, h.1⟩
theorem stRes_len (L : List (List Int)) (ms : List Mv) : (stRes L ms).length ≤ L.length := by
  unfold stRes
  split
  · rw [stL_len]; omega
  · simp
theorem bound_MovesOf (n : Int) (L : List (List Int)) (ms : List Mv) : (mofRes n L ms).length ≤ 1048576 := by
  unfold mofRes
  split
  · rename_i h
    simp only [mlOk, Bool.and_eq_true] at h
    have := (pl_parts h.2).1
    have := stRes_len L ms
    omega
  · simp
theorem ret_bbA {a b : Bool} {c d : Bool} (h : a = b) (h' : c = d) : Ending.returned (.tuple #[.bool a, .bool c]) = .returned (.tuple #[.bool b, .bool d]) := by rw [h, h']
theorem spec_IsMoveList_any (n : Int) (v u : Value) (L : List (List Int)) (ms : List Mv) (base : Nat) (w : World) (h : Lists w base v L) (hm : ReadsM w u ms) (hw : wfM ms) :
    Calls Try.prog 39 #[.int .i64 n, v, u] w fun e w' => e = .returned (.tuple #[.bool (imlV n L ms), .bool (mlOk n L ms)]) ∧ Below w.heap.size w w' := by
  have HL := hid h
  have HM := hid hm
  have HW := hid hw
  clear h hm hw
  cases ht : tkB n ms with
  | false =>
    have HT := hid ht
    have HO := hid (show mlOk n L ms = false by rw [mlOk, ht]; rfl)
    have HV := hid (show imlV n L ms = false by rw [imlV, HO.out]; rfl)
    clear ht
    go_enter Try.func39, Try.ntmps39
    go_wp2_with (first | (go_at_call 87; refine (moTask_any n _ ms _ HM.out HW.out).mono ?_; rintro e w1 ⟨rfl, hb1⟩; rw [HT.out]; have HB1 := hid hb1; clear hb1) | fail)
    go_ret2
    exact ⟨ret_bbA HV.out.symm HO.out.symm, HB1.out⟩
  | true =>
    have HT := hid ht
    obtain ⟨h1, h5, h12, hg⟩ := tk_parts ht
    obtain ⟨N, rfl⟩ : ∃ N : Nat, n = (N : Int) := ⟨n.toNat, by omega⟩
    have HG := hid hg
    clear hg ht
    cases hp : plB (N : Int) L with
    | false =>
      have HP := hid hp
      have HO := hid (show mlOk N L ms = false by rw [mlOk, hp, Bool.and_false])
      have HV := hid (show imlV N L ms = false by rw [imlV, HO.out]; rfl)
      clear hp
      go_enter Try.func39, Try.ntmps39
      go_wp2_with (first
        | (go_at_call 87; refine (moTask_any _ _ ms _ HM.out HW.out).mono ?_; rintro e w1 ⟨rfl, hb1⟩; rw [HT.out]; have HL1 := hid (HL.out.below hb1); have HB1 := hid hb1; clear hb1)
        | (go_at_call 88; refine (moLists_any _ _ L _ _ HL1.out).mono ?_; rintro e w2 ⟨rfl, rfl⟩; rw [HP.out])
        | fail)
      go_ret2
      exact ⟨ret_bbA HV.out.symm HO.out.symm, HB1.out⟩
    | true =>
      have HP := hid hp
      have HO := hid (show mlOk N L ms = true by rw [mlOk, HT.out, hp]; rfl)
      have HV := hid (show imlV N L ms = (stB L ms && alB N L) by rw [imlV, HO.out, Bool.true_and, Int.toNat_natCast])
      have hpp := pl_parts hp
      have HLN := hid (show ∀ t, t < L.length → (L.getD t []).length = N from fun t ht => by have := (hpp.2 t ht).1; omega)
      have hlen := hpp.1
      clear hp hpp
      cases hs : stB L ms with
      | false =>
        have HS := hid hs
        have HV2 := hid (show imlV N L ms = false by rw [HV.out, hs]; rfl)
        clear hs
        go_enter Try.func39, Try.ntmps39
        go_wp2_with (first
          | (go_at_call 87; refine (moTask_any _ _ ms _ HM.out HW.out).mono ?_; rintro e w1 ⟨rfl, hb1⟩; rw [HT.out]; have HL1 := hid (HL.out.below hb1); have HM1 := hid (HM.out.below hb1); have HB1 := hid hb1; clear hb1)
          | (go_at_call 88; refine (moLists_any _ _ L _ _ HL1.out).mono ?_; rintro e w2 ⟨rfl, rfl⟩; rw [HP.out])
          | (go_at_call 89; refine (moSteps_any N _ _ L ms _ _ HL1.out HM1.out (by omega) (by omega) HLN.out HG.out).mono ?_; rintro e w2 ⟨r, rfl, _, hb2⟩; rw [HS.out]; have HB2 := hid (Below_chain HB1.out hb2); clear hb2)
          | fail)
        go_ret2
        exact ⟨ret_bbA HV2.out.symm HO.out.symm, HB2.out⟩
      | true =>
        have HS := hid hs
        have HV2 := hid (show imlV N L ms = alB N L by rw [HV.out, hs]; rfl)
        clear hs
        go_enter Try.func39, Try.ntmps39
        go_wp2_with (first
          | (go_at_call 87; refine (moTask_any _ _ ms _ HM.out HW.out).mono ?_; rintro e w1 ⟨rfl, hb1⟩; rw [HT.out]; have HL1 := hid (HL.out.below hb1); have HM1 := hid (HM.out.below hb1); have HB1 := hid hb1; clear hb1)
          | (go_at_call 88; refine (moLists_any _ _ L _ _ HL1.out).mono ?_; rintro e w2 ⟨rfl, rfl⟩; rw [HP.out])
          | (go_at_call 89; refine (moSteps_any N _ _ L ms _ _ HL1.out HM1.out (by omega) (by omega) HLN.out HG.out).mono ?_; rintro e w2 ⟨r, rfl, _, hb2⟩; rw [HS.out]; have HL2 := hid (HL1.out.below hb2); have HB2 := hid (Below_chain HB1.out hb2); clear hb2)
          | (go_at_call 90; refine (moAll_any N _ L _ _ HL2.out (by omega)).mono ?_; rintro e w3 ⟨rfl, hb3⟩; have HB3 := hid (Below_chain HB2.out hb3); clear hb3)
          | fail)
        go_ret2
        exact ⟨ret_bbA HV2.out.symm HO.out.symm, HB3.out⟩
theorem spec_MovesOf_any (n : Int) (v u : Value) (L : List (List Int)) (ms : List Mv) (base : Nat) (w : World) (h : Lists w base v L) (hm : ReadsM w u ms) (hw : wfM ms) :
    Calls Try.prog 45 #[.int .i64 n, v, u] w fun e w' => ∃ r, e = .returned (.tuple #[r, .bool (mofB n L ms)]) ∧ Own w' w.heap.size r (mofRes n L ms) ∧ Below w.heap.size w w' := by
  have HL := hid h
  have HM := hid hm
  have HW := hid hw
  clear h hm hw
  cases ht : tkB n ms with
  | false =>
    have HT := hid ht
    have HO := hid (show mlOk n L ms = false by rw [mlOk, ht]; rfl)
    have HV := hid (show mofB n L ms = false by rw [mofB, HO.out]; rfl)
    have HR := hid (show mofRes n L ms = [] by rw [mofRes, HO.out, if_neg (by simp)])
    clear ht
    go_enter Try.func45, Try.ntmps45
    go_wp2_with (first | (go_at_call 87; refine (moTask_any n _ ms _ HM.out HW.out).mono ?_; rintro e w1 ⟨rfl, hb1⟩; rw [HT.out]; have HB1 := hid hb1; clear hb1) | fail)
    go_ret2
    exact ⟨_, ret_sbA HV.out.symm, by rw [HR.out]; exact Own.nil _ _, HB1.out⟩
  | true =>
    have HT := hid ht
    obtain ⟨h1, h5, h12, hg⟩ := tk_parts ht
    obtain ⟨N, rfl⟩ : ∃ N : Nat, n = (N : Int) := ⟨n.toNat, by omega⟩
    have HG := hid hg
    clear hg ht
    cases hp : plB (N : Int) L with
    | false =>
      have HP := hid hp
      have HO := hid (show mlOk N L ms = false by rw [mlOk, hp, Bool.and_false])
      have HV := hid (show mofB N L ms = false by rw [mofB, HO.out]; rfl)
      have HR := hid (show mofRes N L ms = [] by rw [mofRes, HO.out, if_neg (by simp)])
      clear hp
      go_enter Try.func45, Try.ntmps45
      go_wp2_with (first
        | (go_at_call 87; refine (moTask_any _ _ ms _ HM.out HW.out).mono ?_; rintro e w1 ⟨rfl, hb1⟩; rw [HT.out]; have HL1 := hid (HL.out.below hb1); have HB1 := hid hb1; clear hb1)
        | (go_at_call 88; refine (moLists_any _ _ L _ _ HL1.out).mono ?_; rintro e w2 ⟨rfl, rfl⟩; rw [HP.out])
        | fail)
      go_ret2
      exact ⟨_, ret_sbA HV.out.symm, by rw [HR.out]; exact Own.nil _ _, HB1.out⟩
    | true =>
      have HP := hid hp
      have HO := hid (show mlOk N L ms = true by rw [mlOk, HT.out, hp]; rfl)
      have HV := hid (show mofB N L ms = stB L ms by rw [mofB, HO.out, Bool.true_and])
      have HR := hid (show mofRes N L ms = stRes L ms by rw [mofRes, HO.out, if_pos rfl])
      have hpp := pl_parts hp
      have HLN := hid (show ∀ t, t < L.length → (L.getD t []).length = N from fun t ht => by have := (hpp.2 t ht).1; omega)
      have hlen := hpp.1
      clear hp hpp
      go_enter Try.func45, Try.ntmps45
      go_wp2_with (first
        | (go_at_call 87; refine (moTask_any _ _ ms _ HM.out HW.out).mono ?_; rintro e w1 ⟨rfl, hb1⟩; rw [HT.out]; have HL1 := hid (HL.out.below hb1); have HM1 := hid (HM.out.below hb1); have HB1 := hid hb1; clear hb1)
        | (go_at_call 88; refine (moLists_any _ _ L _ _ HL1.out).mono ?_; rintro e w2 ⟨rfl, rfl⟩; rw [HP.out])
        | (go_at_call 89; refine (moSteps_any N _ _ L ms _ _ HL1.out HM1.out (by omega) (by omega) HLN.out HG.out).mono ?_; rintro e w2 ⟨r, rfl, ho, hb2⟩; have hs1 := HB1.out.size; have HOW := hid (ho.mono hs1); have HB2 := hid (Below_chain HB1.out hb2); clear hb2 ho)
        | fail)
      go_ret2
      exact ⟨_, ret_sbA HV.out.symm, by rw [HR.out]; exact HOW.out, HB2.out⟩
end Go.Proofs.Yteenmndgejeihaa

/- Contract: spec.FollowMoves. Conditions: the slices read as lists (of moves of 64 bits, of numbers). -/
namespace Go.Proofs.Yteenmndgejeihaa
open Go.RowKit
set_option linter.unusedVariables false
set_option maxRecDepth 4000

theorem Lists_lit4 {w : World} {B : Nat} {u : Value} {l : List Int} (h : Own w B u l) (hB : B ≤ w.heap.size) : Lists (w.alloc (.cells #[u] 22)) B (.slice (some ⟨w.heap.size, 0, none⟩) 1 1) [l] := by
  refine ⟨[u], rfl, ownsRow_mono (World.ownsRow_lit w #[u] 1 (Nat.le_refl _) (by unfold maxLen; omega) rfl) hB, fun i h1 h2 => ?_⟩
  have : i = 0 := by simpa using h2
  subst this
  exact h.below ((Below.refl _ _).alloc (Nat.le_refl _) _)
def mvM (m : Mv) (l : List Int) : List Int := mvL m.1 m.2.1 m.2.2 l
theorem mvM_len (m : Mv) (l : List Int) : (mvM m l).length = l.length := mvL_len _ _ _ _
/-- where the first j steps lead -/
def foN (x : List Int) (ms : List Mv) (st : List Int) : Nat → List Int
  | 0 => x
  | j + 1 => mvM (mGet ms (st.getD j 0).toNat) (foN x ms st j)
theorem foN_len (x : List Int) (ms : List Mv) (st : List Int) : ∀ j, (foN x ms st j).length = x.length
  | 0 => rfl
  | j + 1 => by rw [foN, mvM_len, foN_len x ms st j]
def foL (x : List Int) (ms : List Mv) (st : List Int) (j : Nat) : List (List Int) := (List.range (j + 1)).map (foN x ms st)
theorem foL_succ (x : List Int) (ms : List Mv) (st : List Int) (j : Nat) : foL x ms st (j + 1) = foL x ms st j ++ [foN x ms st (j + 1)] := by
  unfold foL
  rw [List.range_succ, List.map_append]
  rfl
theorem foL_len (x : List Int) (ms : List Mv) (st : List Int) (j : Nat) : (foL x ms st j).length = j + 1 := by simp [foL]
def fmS (ms : List Mv) (st : List Int) : Bool := allTo st.length (fun i => inB (st.getD i 0) 0 ((ms.length : Int) - 1))
def fmB (n : Int) (ms : List Mv) (st : List Int) : Bool := tkB n ms && (decide (st.length ≤ 1099) && fmS ms st)
def fmRes (n : Int) (ms : List Mv) (st : List Int) : List (List Int) := if fmB n ms st = true then foL (upTo n.toNat) ms st st.length else []
set_option maxHeartbeats 1000000 in
theorem spec_FollowMoves_any (n : Int) (v u : Value) (ms : List Mv) (st : List Int) (w : World) (hm : ReadsM w v ms) (hw : wfM ms) (h : Sits w u st) :
    Calls Try.prog 49 #[.int .i64 n, v, u] w fun e w' => ∃ r, e = .returned (.tuple #[r, .bool (fmB n ms st)]) ∧ Lists w' w.heap.size r (fmRes n ms st) ∧ Below w.heap.size w w' := by
  have HRM := hid hm
  have HW := hid hw
  have HS := hid h
  obtain ⟨ao, cm, rfl, hcm, hcmm, hmd⟩ := hm
  have HMD := hid hmd
  unfold maxLen at hcmm
  obtain ⟨bs, os, cs, rfl, hcs1, hcsm, hbs, hcell⟩ := h
  have HC := hid hcell
  clear hmd hcell hw
  cases ht : tkB n ms with
  | false =>
    have HT := hid ht
    have HB := hid (show fmB n ms st = false by rw [fmB, ht]; rfl)
    have HR := hid (show fmRes n ms st = [] by rw [fmRes, HB.out, if_neg (by simp)])
    clear ht
    go_enter Try.func49, Try.ntmps49
    go_wp2_with (first | (go_at_call 87; refine (moTask_any n _ ms _ HRM.out HW.out).mono ?_; rintro e w1 ⟨rfl, hb1⟩; rw [HT.out]; have HB1 := hid hb1; clear hb1) | fail)
    go_ret2
    exact ⟨_, ret_sbA HB.out.symm, by rw [HR.out]; exact Lists.nil _ _, HB1.out⟩
  | true =>
    have HT := hid ht
    obtain ⟨h1, h5, h12, hg⟩ := tk_parts ht
    obtain ⟨N, rfl⟩ : ∃ N : Nat, n = (N : Int) := ⟨n.toNat, by omega⟩
    have HG := hid hg
    clear hg ht
    by_cases hlen : 1099 < st.length
    · have HB := hid (show fmB N ms st = false by rw [fmB, HT.out, decide_eq_false (by omega)]; rfl)
      have HR := hid (show fmRes N ms st = [] by rw [fmRes, HB.out, if_neg (by simp)])
      go_enter Try.func49, Try.ntmps49
      go_wp2_with (first | (go_at_call 87; refine (moTask_any _ _ ms _ HRM.out HW.out).mono ?_; rintro e w1 ⟨rfl, hb1⟩; rw [HT.out]; have HB1 := hid hb1; clear hb1) | fail)
      go_ret2
      exact ⟨_, ret_sbA HB.out.symm, by rw [HR.out]; exact Lists.nil _ _, HB1.out⟩
    · have hwm : IntKind.i64.wrap ((ms.length : Int) - 1) = (ms.length : Int) - 1 := IntWalk.i64_in _ (by omega)
      cases hf : fmS ms st with
      | false =>
        have HF := hid hf
        have HB := hid (show fmB N ms st = false by rw [fmB, hf, Bool.and_false, Bool.and_false])
        have HR := hid (show fmRes N ms st = [] by rw [fmRes, HB.out, if_neg (by simp)])
        clear hf
        go_enter Try.func49, Try.ntmps49
        go_wp2_with (first
          | (go_at_call 87; refine (moTask_any _ _ ms _ HRM.out HW.out).mono ?_; rintro e w1 ⟨rfl, hb1⟩; rw [HT.out]; have HS1 := hid (HS.out.below hb1); have HB1 := hid hb1; clear hb1)
          | (go_at_call 97; refine (l1All_any _ st _ _ _ HS1.out).mono ?_; rintro e w2 ⟨rfl, rfl⟩; rw [show allTo st.length (fun i => inB (st.getD i 0) 0 ((ms.length : Int) - 1)) = false from HF.out])
          | fail)
        go_ret2
        exact ⟨_, ret_sbA HB.out.symm, by rw [HR.out]; exact Lists.nil _ _, HB1.out⟩
      | true =>
        obtain ⟨j0, hj, hy0, hy1, hy2⟩ := info_parts Try.infoL
        have HF := hid hf
        have HB := hid (show fmB N ms st = true by rw [fmB, HT.out, decide_eq_true (by omega), hf]; rfl)
        have HR := hid (show fmRes N ms st = foL (upTo N) ms st st.length by rw [fmRes, HB.out, if_pos rfl]; rfl)
        have HU := hid (upTo_length N)
        clear hf
        go_enter Try.func49, Try.ntmps49
        go_wp2_with (first
          | (go_at_call 87; refine (moTask_any _ _ ms _ HRM.out HW.out).mono ?_; rintro e w1 ⟨rfl, hb1⟩; rw [HT.out]; have HS1 := hid (HS.out.below hb1); have HB1 := hid hb1; have hs1 := hb1.size; clear hb1)
          | (go_at_call 97; refine (l1All_any _ st _ _ _ HS1.out).mono ?_; rintro e w2 ⟨rfl, rfl⟩; rw [show allTo st.length (fun i => inB (st.getD i 0) 0 ((ms.length : Int) - 1)) = true from HF.out])
          | (go_at_call 84; refine (raUpTo_any N _ (by omega)).mono ?_; rintro e w2 ⟨u2, rfl, ho2, hb2⟩; obtain ⟨g2, n2, c2, rfl⟩ := Own.shape ho2 (by rw [HU.out]; omega); have HO2 := hid (ho2.mono hs1); have hb3 := Below_chain HB1.out hb2; have HB2 := hid hb3; have hs2 := hb3.size; have HL2 := hid (Lists_lit4 HO2.out hs2); clear ho2 hb2 hb3)
          | fail)
        have hal : Below w2.heap.size w2 (w2.alloc (.cells #[.slice (some ⟨g2, 0, none⟩) n2 c2] 22)) := (Below.refl _ _).alloc (Nat.le_refl _) _
        have HO3 := hid (HO2.out.below hal)
        have HB3 := hid (Below_chain HB2.out hal)
        clear hal
        go_loopw [8, 9, 35] (fun nv ov i wr => ∃ j : Nat, j ≤ st.length ∧ i = .int .i64 j ∧ Own wr w.heap.size nv (foN (upTo N) ms st j) ∧ Lists wr w.heap.size ov (foL (upTo N) ms st j) ∧ Below w.heap.size w wr) (fun _ _ i _ => st.length - (intOf i).toNat)
        case atStart => exact ⟨0, Nat.zero_le _, rfl, HO3.out, HL2.out, HB3.out⟩
        case round =>
          obtain ⟨t, htl, rfl, hnv, hov, hbel⟩ := hrel
          have HNV := hid hnv
          have HOV := hid hov
          have HBL := hid hbel
          have hsz := hbel.size
          by_cases hlt : t < st.length
          · have hcx0 := HC.out t hlt
            have hin := inB_iff.1 ((allTo_iff _ _).1 HF.out t hlt)
            rw [getD_at hlt] at hin
            obtain ⟨q, hq⟩ : ∃ q : Nat, st[t] = (q : Int) := ⟨st[t].toNat, by omega⟩
            rw [hq] at hcx0 hin
            have hcx := (hbel.cell (p := ⟨bs, os + t, none⟩) (by exact hbs)).trans hcx0
            have hqm : q < ms.length := by omega
            have HQ := hid (show (st.getD t 0).toNat = q by rw [getD_at hlt, hq]; omega)
            rcases HMD.out with h0 | ⟨bb, off, rfl, hbb, hcm3⟩
            · rw [h0] at hqm; simp at hqm
            obtain ⟨e0, e1, e2⟩ := hcm3 q hqm
            have hc0 := (hbel.cell (p := ⟨bb, off + q * 3, none⟩) (by exact hbb)).trans e0
            have hc1' := (hbel.cell (p := ⟨bb, off + q * 3 + 1, none⟩) (by exact hbb)).trans e1
            have hc2 := (hbel.cell (p := ⟨bb, off + q * 3 + 2, none⟩) (by exact hbb)).trans e2
            have hmt := HG.out q hqm
            rw [mvAt, mGet_at hqm] at hmt
            have HFN := hid (show foN (upTo N) ms st (t + 1) = mvL ms[q].1 ms[q].2.1 ms[q].2.2 (foN (upTo N) ms st t) by rw [foN, HQ.out, mGet_at hqm]; rfl)
            have HFL := hid (foL_succ (upTo N) ms st t)
            have HFK := hid (foL_len (upTo N) ms st t)
            rw [HFN.out] at HFL
            obtain ⟨m, hm⟩ : ∃ m, m = ms[q] := ⟨_, rfl⟩
            rw [← hm] at hc0 hc1' hc2 HFN HFL hmt
            obtain ⟨k, i, jj⟩ := m
            simp only at hc0 hc1' hc2 HFN HFL hmt
            obtain ⟨x, hx⟩ : ∃ x, x = foN (upTo N) ms st t := ⟨_, rfl⟩
            obtain ⟨D, hD⟩ : ∃ D, D = foL (upTo N) ms st t := ⟨_, rfl⟩
            have hxl : x.length = N := by rw [hx, foN_len, HU.out]
            have HXL := hid hxl
            have HM := hid (show mvB x.length k i jj = true by rw [hxl]; exact hmt)
            rw [← hx] at HNV HFN HFL
            rw [← hD] at HOV HFL HFK
            have hDl : D.length ≤ 1100 := by rw [HFK.out]; omega
            obtain ⟨gx, nx, cx, hnx⟩ := Own.shape HNV.out (by omega)
            subst hnx
            have hq0 : (0 : Int) ≤ (q : Int) := by omega
            have hq1 : (q : Int) < (ms.length : Int) := by omega
            clear e0 e1 e2 hcm3 hcx0 hin hq hmt hm hx hD hxl hnv hov hbel
            go_wp2_with (first
              | (go_at_call 79; refine (moApply_any _ x k i jj _ ?_ (by rw [HXL.out]; omega) HM.out).mono ?_; (first | exact HNV.out.reads | exact (HNV.out.below (by assumption)).reads); rintro e w5 ⟨u5, rfl, ho5, hb5⟩; obtain ⟨g5, n5, c5, rfl⟩ := Own.shape ho5 (by rw [mvL_len, HXL.out]; omega); have HO5 := hid (ho5.mono hsz); have hb6 := Below_chain HBL.out hb5; have HB5 := hid hb6; have hs5 := hb6.size; obtain ⟨vs, hvl, hvr, hve⟩ := HOV.out.below hb5; have HVL := hid hvl; have HVR := hid hvr; have HVE := hid hve; have HONE := hid HO5.out.one; have HOA := hid (HO5.out.below ((Below.refl _ _).alloc (Nat.le_refl _) (.cells #[.slice (some ⟨g5, 0, none⟩) n5 c5] 22))); clear ho5 hb5 hb6 hvl hvr hve)
              | (at_builtin; refine wpList_append_own _ rfl _ _ 45 rfl w.heap.size 22 j0 (.slice none 0 0) 1 24 Try.underlying45 hj hy0 hy1 hy2 rfl (by decide) _ _ _ rfl (World.ownsRow.alloc HVR.out _) ⟨w5.heap.size, 0, none⟩ 1 1 [.slice (some ⟨g5, 0, none⟩) n5 c5] rfl rfl (fun j u hj => new_cellV j hj) HONE.out (by unfold maxLen; omega) (by omega) (by simp; omega) ?_; intro v6 w6 hown6 hgrow6 hn6; have HPU := hid (Lists_push HVL.out (World.ownsRow.alloc HVR.out _) (fun i a b => (HVE.out i a b).below ((Below.refl _ _).alloc (Nat.le_refl _) _)) HOA.out hown6 hgrow6); have HO6 := hid (Own.kept_type HOA.out (T := 22) (by decide) (World.ownsRow.alloc HVR.out _) hgrow6); have HB6 := hid ((HB5.out.alloc hs5 (.cells #[.slice (some ⟨g5, 0, none⟩) n5 c5] 22)).grown hgrow6 (by simp; omega) (fun q hq => (World.ownsRow.lt HVR.out q hq).1)); clear hown6 hgrow6 hn6)
              | fail)
            go_roundw
            case rel => exact ⟨t + 1, by omega, by go_num, by rw [HFN.out]; exact HO6.out, by rw [HFL.out]; exact HPU.out, HB6.out⟩
            case measure => simp [intOf]; omega
          · obtain rfl : t = st.length := by omega
            clear hnv hov hbel
            go_wp2_with fail
            go_ret2
            exact ⟨_, ret_sbA HB.out.symm, by rw [HR.out]; exact HOV.out, HBL.out⟩
end Go.Proofs.Yteenmndgejeihaa

/- Plain facts: permutations are told by their ranks; a list without repeats of permutations of n has at most n! of them; a move makes a permutation of a permutation. -/
namespace Go.Proofs.Yteenmndgejeihaa
open Go.RowKit
set_option linter.unusedVariables false

theorem rk_count {l l' : List Int} (h : l.Perm l') (x : Int) : countLt l x = countLt l' x := by
  unfold countLt
  exact (h.filter _).length_eq
theorem rk_none {l : List Int} {x : Int} (h : ∀ y ∈ l, ¬ y < x) : countLt l x = 0 := by
  unfold countLt
  rw [List.filter_eq_nil_iff.2 (fun y hy => by simpa using h y hy)]; rfl
theorem rk_fact (m : Nat) : fact (m + 1) = m * fact m + fact m := by rw [fact, Nat.add_mul]; omega
theorem rk_pos : ∀ m, 0 < fact m
  | 0 => Nat.one_pos
  | m + 1 => by rw [rk_fact]; have := rk_pos m; omega
theorem rk_sorted : ∀ {S : List Int}, S.Pairwise (fun a b => a < b) → ∀ {y : Int}, y ∈ S → countLt S y < S.length ∧ S.getD (countLt S y) 0 = y
  | [], _, y, h => absurd h (by simp)
  | x :: t, hs, y, h => by
    rw [List.pairwise_cons] at hs
    rcases List.mem_cons.1 h with rfl | h
    · have h0 : countLt (y :: t) y = 0 := rk_none (fun z hz => by
        rcases List.mem_cons.1 hz with rfl | hz
        · omega
        · have := hs.1 z hz; omega)
      rw [h0]; exact ⟨by simp, rfl⟩
    · have hxy := hs.1 y h
      obtain ⟨a, b⟩ := rk_sorted hs.2 h
      have h1 : countLt (x :: t) y = countLt t y + 1 := by simp [countLt, hxy]
      rw [h1]
      exact ⟨by simp; omega, by rw [List.getD_cons_succ]; exact b⟩
theorem rk_erase : ∀ (l : List Int) (i : Nat) (h : i < l.length), (l[i] :: l.eraseIdx i).Perm l
  | x :: t, 0, _ => List.Perm.refl _
  | x :: t, i + 1, h => (List.Perm.swap x (t[i]'(by simpa using h)) (t.eraseIdx i)).trans ((rk_erase t i (by simpa using h)).cons x)
theorem rk_at : ∀ {ys S : List Int}, S.Pairwise (fun a b => a < b) → ys.Perm S → atR S.length S (rankR ys) = ys
  | [], S, _, h => by
    have : S = [] := by simpa using h.symm
    subst this; rfl
  | y :: t, S, hs, h => by
    have hl : S.length = t.length + 1 := by rw [← h.length_eq]; rfl
    have hy : y ∈ S := h.subset (by simp)
    obtain ⟨a, b⟩ := rk_sorted hs hy
    have hc : countLt S y = countLt t y := by rw [← rk_count h y, countLt_cons]
    rw [hc] at a b
    have hr := rankR_lt t
    have hd : rankR (y :: t) / fact t.length = countLt t y := by
      rw [rankR, countLt_cons, Nat.mul_comm, Nat.mul_add_div (rk_pos _), Nat.div_eq_of_lt hr]; rfl
    have hm : rankR (y :: t) % fact t.length = rankR t := by
      rw [rankR, countLt_cons, Nat.mul_comm, Nat.mul_add_mod, Nat.mod_eq_of_lt hr]
    have hsy : S[countLt t y] = y := by rw [getD_at a] at b; exact b
    have hp : t.Perm (S.eraseIdx (countLt t y)) := by
      have h1 := rk_erase S _ a
      rw [hsy] at h1
      exact (List.Perm.cons_inv (h.trans h1.symm))
    have ih := rk_at (hs.sublist (List.eraseIdx_sublist S _)) hp
    rw [← hp.length_eq] at ih
    rw [hl, atR, hd, hm, b, ih]
theorem rk_permOf : ∀ {ys S : List Int}, ys.Nodup → (∀ y ∈ ys, y ∈ S) → ys.length = S.length → ys.Perm S
  | [], S, _, _, h => by
    have : S = [] := List.eq_nil_of_length_eq_zero h.symm
    subst this; exact List.Perm.refl _
  | y :: t, S, hn, hs, h => by
    rw [List.nodup_cons] at hn
    have h1 := List.perm_cons_erase (hs y (by simp))
    have hl : t.length = (S.erase y).length := by have := h1.length_eq; simp at this h; omega
    have h2 := rk_permOf (S := S.erase y) hn.2 (fun z hz => by
      have hne : z ≠ y := fun e => hn.1 (e ▸ hz)
      exact (List.mem_erase_of_ne hne).2 (hs z (by simp [hz]))) hl
    exact (h2.cons y).trans h1.symm
theorem rk_upTo (n : Nat) : (upTo n).Pairwise (fun a b => a < b) := by
  unfold upTo
  rw [List.pairwise_map]
  exact List.pairwise_lt_range.imp (fun h => by omega)
theorem pm_nodup {xs : List Int} (h : permB xs = true) : xs.Nodup := by
  rw [permB, allTo_iff] at h
  rw [List.nodup_iff_pairwise_ne, List.pairwise_iff_getElem]
  intro i j hi hj hij e
  have h1 := h j hj
  simp only [permAt, Bool.and_eq_true, freshAt, Bool.not_eq_true'] at h1
  have h2 : hasB (xs.take j) (xs.getD j 0) = true := by
    rw [hasB_iff, getD_at hj, ← e]
    exact List.mem_take_iff_getElem.2 ⟨i, by omega, rfl⟩
  rw [h2] at h1
  exact absurd h1.2 (by simp)
theorem pm_perm {xs : List Int} (h : permB xs = true) : xs.Perm (upTo xs.length) := by
  refine rk_permOf (pm_nodup h) (fun y hy => ?_) (by rw [upTo_length])
  obtain ⟨i, hi, rfl⟩ := List.mem_iff_getElem.1 hy
  have := permB_range h hi
  rw [getD_at hi] at this
  rw [upTo, List.mem_map]
  exact ⟨xs[i].toNat, List.mem_range.2 (by omega), by omega⟩
/-- xs is a permutation of the first n numbers -/
def PN (n : Nat) (xs : List Int) : Prop := xs.Perm (upTo n)
theorem PN.len {n : Nat} {xs : List Int} (h : PN n xs) : xs.length = n := by rw [h.length_eq, upTo_length]
theorem PN_of {n : Nat} {xs : List Int} (h : permB xs = true) (hl : xs.length = n) : PN n xs := hl ▸ pm_perm h
theorem PN.permB {n : Nat} {xs : List Int} (h : PN n xs) (hn : n ≤ 12) : permB xs = true := by
  have hl := h.len
  have hnd : xs.Nodup := h.nodup_iff.2 ((rk_upTo n).imp (fun h => by omega))
  rw [Go.Proofs.Yteenmndgejeihaa.permB, allTo_iff]
  intro i hi
  have hm : xs[i] ∈ upTo n := h.subset (List.getElem_mem hi)
  simp only [upTo, List.mem_map, List.mem_range] at hm
  obtain ⟨a, ha, hae⟩ := hm
  rw [permAt, getD_at hi, Bool.and_eq_true, Bool.and_eq_true, decide_eq_true_eq, inB_iff, freshAt, getD_at hi, Bool.not_eq_true']
  refine ⟨⟨by omega, by omega, by omega⟩, ?_⟩
  cases hh : hasB (xs.take i) xs[i] with
  | false => rfl
  | true =>
    rw [hasB_iff] at hh
    obtain ⟨j, hj, he⟩ := List.mem_take_iff_getElem.1 hh
    rw [List.nodup_iff_pairwise_ne, List.pairwise_iff_getElem] at hnd
    exact absurd he (hnd j i (by omega) hi (by omega))
theorem PN.nat {n : Nat} {xs : List Int} (h : PN n xs) {x : Int} (hx : x ∈ xs) : 0 ≤ x ∧ x < n := by
  have hm := h.subset hx
  simp only [upTo, List.mem_map, List.mem_range] at hm
  obtain ⟨a, ha, hae⟩ := hm
  omega
theorem PN_upTo (n : Nat) : PN n (upTo n) := List.Perm.refl _
theorem rk_inj {n : Nat} {a b : List Int} (ha : PN n a) (hb : PN n b) (h : rankR a = rankR b) : a = b := by
  rw [← rk_at (rk_upTo n) ha, ← rk_at (rk_upTo n) hb, h]
theorem rk_lt {n : Nat} {a : List Int} (ha : PN n a) : rankR a < fact n := by
  have := rankR_lt a
  rwa [ha.len] at this
theorem natNodup : ∀ (N : Nat) (l : List Nat), l.Nodup → (∀ x ∈ l, x < N) → l.length ≤ N
  | 0, [], _, _ => Nat.le_refl _
  | 0, x :: t, _, h => absurd (h x (by simp)) (by omega)
  | N + 1, l, hn, h => by
    have ih := natNodup N (l.erase N) (hn.erase _) (fun x hx => by
      have h1 := h x (List.mem_of_mem_erase hx)
      have h2 : x ≠ N := fun e => by
        subst e
        exact absurd hx (hn.not_mem_erase)
      omega)
    rw [List.length_erase] at ih
    split at ih <;> omega
theorem PN_nodup_len {n : Nat} {D : List (List Int)} (hn : D.Nodup) (h : ∀ d ∈ D, PN n d) : D.length ≤ fact n := by
  have h1 : (D.map rankR).Nodup := by
    rw [List.nodup_iff_pairwise_ne, List.pairwise_map]
    rw [List.nodup_iff_pairwise_ne] at hn
    refine List.Pairwise.imp_of_mem ?_ hn
    intro a b ha hb hab e
    exact hab (rk_inj (h a ha) (h b hb) e)
  have := natNodup (fact n) (D.map rankR) h1 (fun x hx => by
    obtain ⟨d, hd, rfl⟩ := List.mem_map.1 hx
    exact rk_lt (h d hd))
  simpa using this
theorem natPermOf : ∀ {ys S : List Nat}, ys.Nodup → (∀ y ∈ ys, y ∈ S) → ys.length = S.length → ys.Perm S
  | [], S, _, _, h => by
    have : S = [] := List.eq_nil_of_length_eq_zero h.symm
    subst this; exact List.Perm.refl _
  | y :: t, S, hn, hs, h => by
    rw [List.nodup_cons] at hn
    have h1 := List.perm_cons_erase (hs y (by simp))
    have hl : t.length = (S.erase y).length := by have := h1.length_eq; simp at this h; omega
    have h2 := natPermOf (S := S.erase y) hn.2 (fun z hz => by
      have hne : z ≠ y := fun e => hn.1 (e ▸ hz)
      exact (List.mem_erase_of_ne hne).2 (hs z (by simp [hz]))) hl
    exact (h2.cons y).trans h1.symm
theorem mod_succ {t i : Nat} (h : t < i) : (t + 1) % i = if t + 1 = i then 0 else t + 1 := by
  split
  · rename_i e; rw [e, Nat.mod_self]
  · exact Nat.mod_eq_of_lt (by omega)
theorem mvS_lt {n k i j : Int} (h : mvB n k i j = true) {t : Nat} (ht : (t : Int) < n) : (mvS k i j t : Int) < n := by
  obtain ⟨h2, hh⟩ := mvB_two h
  unfold mvS
  rcases hh with ⟨rfl, h0, h1, h3⟩ | ⟨hk, h0, h1⟩
  · rw [if_pos rfl]; split
    · omega
    · split <;> omega
  · rcases hk with rfl | rfl
    · rw [if_neg (by omega), if_pos rfl]; split <;> omega
    · rw [if_neg (by omega), if_neg (by omega)]
      split
      · rename_i hlt
        rw [show ((t : Int) + 1).toNat = t + 1 by omega, mod_succ (by omega)]
        split <;> omega
      · omega
theorem mvS_0 (i j : Int) (t : Nat) : mvS 0 i j t = if (t : Int) = i then j.toNat else if (t : Int) = j then i.toNat else t := rfl
theorem mvS_1 (i j : Int) (t : Nat) : mvS 1 i j t = if (t : Int) < i then (i - 1 - t).toNat else t := rfl
theorem mvS_2 (i j : Int) (t : Nat) : mvS 2 i j t = if (t : Int) < i then ((t : Int) + 1).toNat % i.toNat else t := rfl
theorem mvS_inj {n k i j : Int} (h : mvB n k i j = true) {s t : Nat} (hst : mvS k i j s = mvS k i j t) : s = t := by
  obtain ⟨h2, hh⟩ := mvB_two h
  clear h
  rcases hh with ⟨rfl, h0, h1, h3⟩ | ⟨hk, h0, h1⟩
  · rw [mvS_0, mvS_0] at hst
    split at hst <;> split at hst <;> (try split at hst) <;> (try split at hst) <;> omega
  · rcases hk with rfl | rfl
    · rw [mvS_1, mvS_1] at hst
      split at hst <;> split at hst <;> omega
    · rw [mvS_2, mvS_2, show ((s : Int) + 1).toNat = s + 1 by omega, show ((t : Int) + 1).toNat = t + 1 by omega] at hst
      by_cases ha : (s : Int) < i
      · rw [if_pos ha, mod_succ (by omega)] at hst
        by_cases hb : (t : Int) < i
        · rw [if_pos hb, mod_succ (by omega)] at hst
          split at hst <;> split at hst <;> omega
        · rw [if_neg hb] at hst
          split at hst <;> omega
      · rw [if_neg ha] at hst
        by_cases hb : (t : Int) < i
        · rw [if_pos hb, mod_succ (by omega)] at hst
          split at hst <;> omega
        · rw [if_neg hb] at hst
          exact hst
/-- a move only orders anew -/
theorem mvL_perm {k i j : Int} {l : List Int} (h : mvB l.length k i j = true) : (mvL k i j l).Perm l := by
  have h1 : ((List.range l.length).map (mvS k i j)).Perm (List.range l.length) := by
    refine natPermOf ?_ (fun y hy => ?_) (by simp)
    · rw [List.nodup_iff_pairwise_ne, List.pairwise_map]
      exact List.pairwise_lt_range.imp (fun {a b} hab e => by have := mvS_inj h e; omega)
    · obtain ⟨t, ht, rfl⟩ := List.mem_map.1 hy
      have := mvS_lt h (t := t) (by have := List.mem_range.1 ht; omega)
      exact List.mem_range.2 (by omega)
  have h2 := h1.map (fun t => l.getD t 0)
  rw [List.map_map] at h2
  have h3 : (List.range l.length).map (fun t => l.getD t 0) = l := by
    apply List.ext_getElem
    · simp
    · intro t a b
      simp only [List.getElem_map, List.getElem_range]
      exact getD_at b
  rw [h3] at h2
  exact h2
theorem mvM_PN {n : Nat} {m : Mv} {l : List Int} (h : PN n l) (hm : mvB n m.1 m.2.1 m.2.2 = true) : PN n (mvM m l) := (mvL_perm (by rw [h.len]; exact hm)).trans h
end Go.Proofs.Yteenmndgejeihaa

/- Contracts: moNew, spec.GreedyList. Conditions: the slices read as lists (of lists, of moves of 64 bits). -/
namespace Go.Proofs.Yteenmndgejeihaa
open Go.RowKit
set_option linter.unusedVariables false
set_option maxRecDepth 4000

theorem plc_neg (l : List Int) : ∀ L : List (List Int), placeIn l L < 0 ↔ l ∉ L
  | [] => by simp [placeIn]
  | x :: r => by
    have ih := plc_neg l r
    by_cases h : x = l
    · rw [placeIn, if_pos h]; simp [h]
    · have h' : ¬ l = x := fun e => h e.symm
      rw [placeIn, if_neg h]
      simp only [List.mem_cons, h', false_or]
      split
      · rename_i h2
        exact ⟨fun _ => ih.1 h2, fun _ => by omega⟩
      · rename_i h2
        exact ⟨fun h3 => by omega, fun h3 => absurd (ih.2 h3) h2⟩
def lastL (P : List (List Int)) : List Int := P.getD (P.length - 1) []
theorem lastL_at {P : List (List Int)} {j : Nat} (h : P.length = j + 1) : lastL P = P[j]'(by omega) := by
  unfold lastL
  rw [show P.length - 1 = j by omega]
  exact getDM (by omega)
def nwAt (P : List (List Int)) (ms : List Mv) (t : Nat) : Bool := decide (placeIn (mvM (mGet ms t) (lastL P)) P < 0)
/-- the least index of a move to something new, or -1 -/
def nwI (P : List (List Int)) (ms : List Mv) : Int := firstI (nwAt P ms) 0 ms.length
set_option maxHeartbeats 1000000 in
theorem moNew_any (v u : Value) (P : List (List Int)) (ms : List Mv) (base : Nat) (w : World) (h : Lists w base v P) (hm : ReadsM w u ms) (h0 : 0 < P.length) (hP : P.length ≤ 100000) (hl : (lastL P).length ≤ 1000) (hg : ∀ t, t < ms.length → mvAt (lastL P).length ms t = true) :
    Calls Try.prog 99 #[v, u] w fun e w' => e = .returned (.int .i64 (nwI P ms)) ∧ Below w.heap.size w w' := by
  have HP := hid h
  have HG := hid hg
  obtain ⟨ao, c, rfl, hc1, hcm, hmd⟩ := hm
  unfold maxLen at hcm
  rcases h.form with ⟨rfl, rfl⟩ | ⟨gp, cp, rfl, _, hgp, hp1, hpm, hpc⟩
  · simp at h0
  rcases hmd with h | ⟨bb, off, rfl, hbb, hc⟩
  · subst h
    clear hpc
    go_enter Try.func99, Try.ntmps99
    go_wp2_with fail
    refine wp_loop_rounds 1 ?_
    rw [rounds_succ]
    go_wp2_with fail
    go_returns
    exact ⟨rfl, Below.refl _ _⟩
  · have HC := hid hc
    obtain ⟨j, hj⟩ : ∃ j : Nat, P.length = j + 1 := ⟨P.length - 1, by omega⟩
    obtain ⟨z, hz, hzo⟩ := hpc j (by omega)
    obtain ⟨x, hx⟩ : ∃ x, x = lastL P := ⟨_, rfl⟩
    have hx2 : x = P[j] := by rw [hx]; exact lastL_at hj
    rw [← hx2] at hzo
    rw [← hx] at HG hl
    have HX := hid hx
    have HZ := hid hzo.reads
    have hj0 : (0 : Int) ≤ (j : Int) := by omega
    have hj1 : (j : Int) < (P.length : Int) := by omega
    have hww : IntKind.i64.wrap ((P.length : Int) - 1) = (j : Int) := by rw [show (P.length : Int) - 1 = (j : Int) by omega]; exact IntWalk.i64_in _ (by omega)
    have hwj : IntKind.i64.wrap (j : Int) = (j : Int) := IntWalk.i64_in _ (by omega)
    have HJ := hid hj
    clear hc hpc hzo hx hx2 hj
    go_enter Try.func99, Try.ntmps99
    go_wp2_with fail
    go_loopw [9] (fun i wr => ∃ t : Nat, t ≤ ms.length ∧ i = .int .i64 t ∧ nwI P ms = firstI (nwAt P ms) t (ms.length - t) ∧ Below w.heap.size w wr) (fun i _ => ms.length - (intOf i).toNat)
    case atStart => exact ⟨0, Nat.zero_le _, rfl, rfl, Below.refl _ _⟩
    case round =>
      obtain ⟨t, ht, rfl, hall, hbel⟩ := hrel
      have HA := hid hall
      have HB := hid hbel
      have hsz := hbel.size
      clear hall
      by_cases hlt : t < ms.length
      · obtain ⟨h0, h1, h2⟩ := HC.out t hlt
        have hc0 := (hbel.cell (p := ⟨bb, off + t * 3, none⟩) (by exact hbb)).trans h0
        have hc1' := (hbel.cell (p := ⟨bb, off + t * 3 + 1, none⟩) (by exact hbb)).trans h1
        have hc2 := (hbel.cell (p := ⟨bb, off + t * 3 + 2, none⟩) (by exact hbb)).trans h2
        have hcz : wr.cell? ⟨gp, j, none⟩ = some z := (hbel.cell (by exact hgp)).trans hz
        have hmt := HG.out t hlt
        rw [mvAt, mGet_at hlt] at hmt
        have HK := hid (show nwAt P ms t = decide (placeIn (mvL ms[t].1 ms[t].2.1 ms[t].2.2 x) P < 0) by rw [nwAt, mGet_at hlt, ← HX.out]; rfl)
        obtain ⟨m, hm⟩ : ∃ m, m = ms[t] := ⟨_, rfl⟩
        rw [← hm] at hc0 hc1' hc2 HK hmt
        obtain ⟨k, i, jj⟩ := m
        simp only at hc0 hc1' hc2 HK hmt
        have HM := hid hmt
        obtain ⟨q, hq⟩ : ∃ q, q = placeIn (mvL k i jj x) P := ⟨_, rfl⟩
        have HQ := hid hq
        rw [← hq] at HK
        obtain ⟨x0, x1, x2⟩ := mv_box wr k i jj
        have hba := (Below.refl wr.heap.size wr).alloc (Nat.le_refl _) (mvObj k i jj)
        have hcz2 : (wr.alloc (mvObj k i jj)).cell? ⟨gp, j, none⟩ = some z := (hba.cell (by show gp < wr.heap.size; omega)).trans hcz
        have HZ1 := hid (HZ.out.below (Below_chain HB.out hba))
        have HP1 := hid (HP.out.below (Below_chain HB.out hba))
        have HB0 := hid (Below_chain HB.out hba)
        have HR1 := hid (show ms.length - t = (ms.length - (t + 1)) + 1 by omega)
        have hzz : Below (wr.alloc (mvObj k i jj)).heap.size (wr.alloc (mvObj k i jj)) (wr.alloc (mvObj k i jj)).drew := (Below.refl _ _).drew
        have HDR := hid hzz
        clear h0 h1 h2 hbel hm hmt hba hq hzz
        by_cases hneg : q < 0
        · have HF := hid (show nwI P ms = (t : Int) by rw [HA.out, HR1.out, firstI_hit (by rw [HK.out, decide_eq_true hneg])])
          go_wp2_with fail
          go_region_held3 (fun w' => w'.cell? ⟨gp, j, none⟩ = some z ∧ w'.cell? ⟨wr.heap.size, 0, none⟩ = some (.int .i64 k) ∧ w'.cell? ⟨wr.heap.size, 1, none⟩ = some (.int .i64 i) ∧ w'.cell? ⟨wr.heap.size, 2, none⟩ = some (.int .i64 jj))
            (first | exact ⟨hcz2, x0, x1, x2⟩ | exact ⟨cell_below2 hcz2 HA2.out, cell_below2 x0 HA2.out, cell_below2 x1 HA2.out, cell_below2 x2 HA2.out⟩ | exact ⟨cell_below2 hcz2 HA3.out, cell_below2 x0 HA3.out, cell_below2 x1 HA3.out, cell_below2 x2 HA3.out⟩ | go_keep | fail)
            (first
              | (go_at_call 79; refine (moApply_any _ x k i jj _ (HZ1.out.below HDR.out) hl HM.out).mono ?_; rintro e w2 ⟨u, rfl, ho2, hb2⟩; have HR2 := hid ho2.reads; have HA2 := hid (HDR.out.trans hb2 : Below (wr.alloc (mvObj k i jj)).heap.size (wr.alloc (mvObj k i jj)) w2); have HP2 := hid (HP1.out.below HA2.out); clear ho2 hb2)
              | (go_at_call 121; refine (raPlace_any _ _ P (mvL k i jj x) _ _ HP2.out HR2.out).mono ?_; rintro e w3 ⟨rfl, hb3⟩; rw [← HQ.out]; have HA3 := hid (Below_chain HA2.out hb3); clear hb3)
              | fail)
          all_goals
            go_wp2_with fail
            go_returns
            exact ⟨ret_int4 HF.out.symm, Below_chain HB0.out HA3.out⟩
        · have HF := hid (show nwI P ms = firstI (nwAt P ms) (t + 1) (ms.length - (t + 1)) by rw [HA.out, HR1.out, firstI_miss (by rw [HK.out, decide_eq_false hneg])])
          go_wp2_with fail
          go_region_held3 (fun w' => w'.cell? ⟨gp, j, none⟩ = some z ∧ w'.cell? ⟨wr.heap.size, 0, none⟩ = some (.int .i64 k) ∧ w'.cell? ⟨wr.heap.size, 1, none⟩ = some (.int .i64 i) ∧ w'.cell? ⟨wr.heap.size, 2, none⟩ = some (.int .i64 jj))
            (first | exact ⟨hcz2, x0, x1, x2⟩ | exact ⟨cell_below2 hcz2 HA2.out, cell_below2 x0 HA2.out, cell_below2 x1 HA2.out, cell_below2 x2 HA2.out⟩ | exact ⟨cell_below2 hcz2 HA3.out, cell_below2 x0 HA3.out, cell_below2 x1 HA3.out, cell_below2 x2 HA3.out⟩ | go_keep | fail)
            (first
              | (go_at_call 79; refine (moApply_any _ x k i jj _ (HZ1.out.below HDR.out) hl HM.out).mono ?_; rintro e w2 ⟨u, rfl, ho2, hb2⟩; have HR2 := hid ho2.reads; have HA2 := hid (HDR.out.trans hb2 : Below (wr.alloc (mvObj k i jj)).heap.size (wr.alloc (mvObj k i jj)) w2); have HP2 := hid (HP1.out.below HA2.out); clear ho2 hb2)
              | (go_at_call 121; refine (raPlace_any _ _ P (mvL k i jj x) _ _ HP2.out HR2.out).mono ?_; rintro e w3 ⟨rfl, hb3⟩; rw [← HQ.out]; have HA3 := hid (Below_chain HA2.out hb3); clear hb3)
              | fail)
          all_goals
            go_wp2_with fail
            go_roundw
            case rel => exact ⟨t + 1, by omega, by go_num, HF.out, Below_chain HB0.out HA3.out⟩
            case measure => simp [intOf]; omega
      · obtain rfl : t = ms.length := by omega
        have HF := hid (show nwI P ms = -1 by rw [HA.out, Nat.sub_self]; rfl)
        clear hbel
        go_wp2_with fail
        go_returns
        exact ⟨ret_int4 HF.out.symm, HB.out⟩
end Go.Proofs.Yteenmndgejeihaa

/- Contract: spec.GreedyList. Conditions: the slice reads as a list of moves of 64 bits. -/
namespace Go.Proofs.Yteenmndgejeihaa
open Go.RowKit
set_option linter.unusedVariables false
set_option maxRecDepth 4000

theorem size_alloc3 {n : Nat} {w : World} (h : n ≤ w.heap.size) (o : Obj) : n ≤ (w.alloc o).heap.size := by simp; omega
def slLen4 : Value → Nat
  | .slice _ n _ => n
  | _ => 0
theorem Lists.slLen4 {w : World} {B : Nat} {v : Value} {L : List (List Int)} (h : Lists w B v L) : slLen4 v = L.length := by
  rcases h.form with ⟨rfl, rfl⟩ | ⟨g, cap, rfl, _⟩ <;> rfl
theorem firstI_true {p : Nat → Bool} : ∀ {r t : Nat}, 0 ≤ firstI p t r → p (firstI p t r).toNat = true
  | 0, t, h => by simp [firstI] at h
  | r + 1, t, h => by
    rw [firstI] at h ⊢
    split
    · rename_i hp; simpa using hp
    · rename_i hp
      rw [if_neg hp] at h
      exact firstI_true h
/-- a greedy list goes on, at most f times -/
def grRun (ms : List Mv) : Nat → List (List Int) → List (List Int)
  | 0, D => D
  | f + 1, D => if nwI D ms < 0 then D else grRun ms f (D ++ [mvM (mGet ms (nwI D ms).toNat) (lastL D)])
def grL (n : Nat) (ms : List Mv) : List (List Int) := grRun ms 120 [upTo n]
theorem grRun_end {ms : List Mv} {D : List (List Int)} (h : nwI D ms < 0) : ∀ f, grRun ms f D = D
  | 0 => rfl
  | f + 1 => by rw [grRun, if_pos h]
theorem grRun_step {ms : List Mv} {D : List (List Int)} (h : ¬ nwI D ms < 0) (f : Nat) : grRun ms (f + 1) D = grRun ms f (D ++ [mvM (mGet ms (nwI D ms).toNat) (lastL D)]) := by rw [grRun, if_neg h]
/-- different permutations, at least one -/
def GI (n : Nat) (D : List (List Int)) : Prop := 0 < D.length ∧ D.Nodup ∧ ∀ d ∈ D, PN n d
theorem GI_first (n : Nat) : GI n [upTo n] := ⟨by simp, by simp, fun d hd => by simp at hd; subst hd; exact PN_upTo n⟩
theorem GI.last {n : Nat} {D : List (List Int)} (h : GI n D) : PN n (lastL D) := by
  have h0 := h.1
  obtain ⟨j, hj⟩ : ∃ j, D.length = j + 1 := ⟨D.length - 1, by omega⟩
  rw [lastL_at hj]
  exact h.2.2 _ (List.getElem_mem _)
theorem GI.next {n : Nat} {D : List (List Int)} {ms : List Mv} (h : GI n D) (hg : ∀ t, t < ms.length → mvAt n ms t = true) (hi : 0 ≤ nwI D ms) : GI n (D ++ [mvM (mGet ms (nwI D ms).toNat) (lastL D)]) := by
  have hr := firstI_range (nwAt D ms) ms.length 0
  have ht := firstI_true (p := nwAt D ms) (r := ms.length) (t := 0) hi
  have hlt : (nwI D ms).toNat < ms.length := by unfold nwI at hi ⊢; omega
  have hm := hg _ hlt
  rw [nwAt, decide_eq_true_eq, plc_neg] at ht
  refine ⟨by simp, ?_, fun d hd => ?_⟩
  · rw [List.nodup_append]
    refine ⟨h.2.1, by simp, fun a ha b hb e => ?_⟩
    simp at hb
    subst hb
    subst e
    exact ht ha
  · rcases List.mem_append.1 hd with hd | hd
    · exact h.2.2 d hd
    · simp at hd
      subst hd
      exact mvM_PN h.last hm
theorem fact_five {n : Nat} (h : n ≤ 5) : fact n ≤ 120 := by
  have : n = 0 ∨ n = 1 ∨ n = 2 ∨ n = 3 ∨ n = 4 ∨ n = 5 := by omega
  rcases this with rfl | rfl | rfl | rfl | rfl | rfl <;> decide
theorem GI.len {n : Nat} {D : List (List Int)} (h : GI n D) (hn : n ≤ 5) : D.length ≤ 120 := Nat.le_trans (PN_nodup_len h.2.1 h.2.2) (fact_five hn)
def glRes (n : Int) (ms : List Mv) : List (List Int) := if tkB n ms = true then grL n.toNat ms else []
set_option maxHeartbeats 1000000 in
theorem spec_GreedyList_any (n : Int) (v : Value) (ms : List Mv) (w : World) (hm : ReadsM w v ms) (hw : wfM ms) :
    Calls Try.prog 52 #[.int .i64 n, v] w fun e w' => ∃ r, e = .returned (.tuple #[r, .bool (tkB n ms)]) ∧ Lists w' w.heap.size r (glRes n ms) ∧ Below w.heap.size w w' := by
  have HRM := hid hm
  have HW := hid hw
  obtain ⟨ao, cm, rfl, hcm, hcmm, hmd⟩ := hm
  have HMD := hid hmd
  unfold maxLen at hcmm
  clear hmd hw
  cases ht : tkB n ms with
  | false =>
    have HT := hid ht
    have HR := hid (show glRes n ms = [] by rw [glRes, ht, if_neg (by simp)])
    clear ht
    go_enter Try.func52, Try.ntmps52
    go_wp2_with (first | (go_at_call 87; refine (moTask_any n _ ms _ HRM.out HW.out).mono ?_; rintro e w1 ⟨rfl, hb1⟩; rw [HT.out]; have HB1 := hid hb1; clear hb1) | fail)
    go_ret2
    exact ⟨_, rfl, by rw [HR.out]; exact Lists.nil _ _, HB1.out⟩
  | true =>
    have HT := hid ht
    obtain ⟨h1, h5, h12, hg⟩ := tk_parts ht
    obtain ⟨N, rfl⟩ : ∃ N : Nat, n = (N : Int) := ⟨n.toNat, by omega⟩
    have HG := hid hg
    have HR := hid (show glRes N ms = grRun ms 120 [upTo N] by rw [glRes, ht, if_pos rfl]; rfl)
    obtain ⟨j0, hj, hy0, hy1, hy2⟩ := info_parts Try.infoL
    have HU := hid (upTo_length N)
    have HGM := hid (show ∀ D, GI N D → (lastL D).length ≤ 1000 ∧ ∀ t, t < ms.length → mvAt (lastL D).length ms t = true from fun D hD => by
      have hl := hD.last.len
      rw [hl]
      exact ⟨by omega, hg⟩)
    clear hg ht
    go_enter Try.func52, Try.ntmps52
    go_wp2_with (first
      | (go_at_call 87; refine (moTask_any _ _ ms _ HRM.out HW.out).mono ?_; rintro e w1 ⟨rfl, hb1⟩; rw [HT.out]; have HB1 := hid hb1; have hs1 := hb1.size; clear hb1)
      | (go_at_call 84; refine (raUpTo_any N _ (by omega)).mono ?_; rintro e w2 ⟨u2, rfl, ho2, hb2⟩; obtain ⟨g2, n2, c2, rfl⟩ := Own.shape ho2 (by rw [HU.out]; omega); have HO2 := hid (ho2.mono hs1); have hb3 := Below_chain HB1.out hb2; have HB2 := hid hb3; have hs2 := hb3.size; have HL2 := hid (Lists_lit4 HO2.out hs2); have HB3 := hid (hb3.alloc hs2 (.cells #[.slice (some ⟨g2, 0, none⟩) n2 c2] 22)); clear ho2 hb2 hb3)
      | (go_at_call 99; refine (moNew_any _ _ [upTo N] ms _ _ HL2.out (HRM.out.below HB3.out) (by simp) (by simp) (HGM.out _ (GI_first N)).1 (HGM.out _ (GI_first N)).2).mono ?_; rintro e w3 ⟨rfl, hb3⟩; have HL3 := hid (HL2.out.below hb3); have HB4 := hid (Below_chain HB3.out hb3); clear hb3)
      | fail)
    go_loopw [6, 7] (fun ov i wr => ∃ (f : Nat) (D : List (List Int)), D.length + f = 121 ∧ GI N D ∧ i = .int .i64 (nwI D ms) ∧ grRun ms 120 [upTo N] = grRun ms f D ∧ Lists wr w.heap.size ov D ∧ Below w.heap.size w wr) (fun ov _ _ => 122 - slLen4 ov)
    case atStart => exact ⟨120, [upTo N], rfl, GI_first N, rfl, rfl, HL3.out, HB4.out⟩
    case round =>
      obtain ⟨f, D, hf, hgi, rfl, heq, hov, hbel⟩ := hrel
      have HGI := hid hgi
      have HEQ := hid heq
      have HOV := hid hov
      have HB := hid hbel
      have hsz := hbel.size
      have hlen := hgi.len (by omega)
      have hD0 := hgi.1
      obtain ⟨i, hi⟩ : ∃ i, i = nwI D ms := ⟨_, rfl⟩
      have HI := hid hi
      have hir : -1 ≤ i ∧ i < ms.length := by
        have := firstI_range (nwAt D ms) ms.length 0
        rw [hi]; unfold nwI; omega
      rw [← hi]
      by_cases hneg : i < 0
      · have HE := hid (heq.trans (grRun_end (by rw [← hi]; exact hneg) f))
        clear hov hbel heq hgi hi
        go_wp2_with fail
        go_ret2
        exact ⟨_, rfl, by rw [HR.out, HE.out]; exact HOV.out, HB.out⟩
      · obtain ⟨f', rfl⟩ : ∃ f', f = f' + 1 := ⟨f - 1, by omega⟩
        have hi0 : 0 ≤ nwI D ms := by omega
        have hst := grRun_step (show ¬ nwI D ms < 0 by omega) f'
        have hgn := hgi.next HG.out hi0
        have hxl := hgi.last.len
        obtain ⟨q, hq⟩ : ∃ q : Nat, i = (q : Int) := ⟨i.toNat, by omega⟩
        subst hq
        have hqm : q < ms.length := by omega
        rw [← hi, Int.toNat_natCast, mGet_at hqm] at hst hgn
        rcases HMD.out with h0 | ⟨bb, off, rfl, hbb, hcm3⟩
        · rw [h0] at hqm; simp at hqm
        obtain ⟨e0, e1, e2⟩ := hcm3 q hqm
        have hc0 := (hbel.cell (p := ⟨bb, off + q * 3, none⟩) (by exact hbb)).trans e0
        have hc1' := (hbel.cell (p := ⟨bb, off + q * 3 + 1, none⟩) (by exact hbb)).trans e1
        have hc2 := (hbel.cell (p := ⟨bb, off + q * 3 + 2, none⟩) (by exact hbb)).trans e2
        have hmt := HG.out q hqm
        rw [mvAt, mGet_at hqm] at hmt
        obtain ⟨m, hm⟩ : ∃ m, m = ms[q] := ⟨_, rfl⟩
        rw [← hm] at hc0 hc1' hc2 hst hgn hmt
        obtain ⟨k, ii, jj⟩ := m
        simp only at hc0 hc1' hc2 hmt
        obtain ⟨x, hx⟩ : ∃ x, x = lastL D := ⟨_, rfl⟩
        rw [← hx] at hst hgn hxl
        have hst2 := heq.trans hst
        have HST := hid (show grRun ms 120 [upTo N] = grRun ms f' (D ++ [mvL k ii jj x]) from hst2)
        have HGN := hid (show GI N (D ++ [mvL k ii jj x]) from hgn)
        have HXL := hid hxl
        have HM := hid (show mvB x.length k ii jj = true by rw [hxl]; exact hmt)
        rcases hov.form with ⟨_, hn⟩ | ⟨g, cap, rfl, _, hg, hcp, hcpm, hcl⟩
        · rw [hn] at hD0; simp at hD0
        obtain ⟨j, hjl⟩ : ∃ j : Nat, D.length = j + 1 := ⟨D.length - 1, by omega⟩
        obtain ⟨z, hz, hzo⟩ := hcl j (by omega)
        have hx2 : x = D[j] := by rw [hx]; exact lastL_at hjl
        rw [← hx2] at hzo
        have HZ := hid hzo.reads
        have hq0 : (0 : Int) ≤ (q : Int) := by omega
        have hq1 : (q : Int) < (ms.length : Int) := by omega
        have hj0 : (0 : Int) ≤ (j : Int) := by omega
        have hj1 : (j : Int) < (D.length : Int) := by omega
        have hww : IntKind.i64.wrap ((D.length : Int) - 1) = (j : Int) := by rw [show (D.length : Int) - 1 = (j : Int) by omega]; exact IntWalk.i64_in _ (by omega)
        have hwj : IntKind.i64.wrap (j : Int) = (j : Int) := IntWalk.i64_in _ (by omega)
        have hwq : IntKind.i64.wrap (q : Int) = (q : Int) := IntWalk.i64_in _ (by omega)
        have HDR := hid (show Below wr.heap.size wr wr.drew from (Below.refl _ _).drew)
        have hbbr : bb < wr.heap.size := Nat.lt_of_lt_of_le hbb hsz
        have HSL := hid hov.slLen4
        have HFJ := hid hjl
        have HF1 := hid hf
        have hxl1000 : x.length ≤ 1000 := by omega
        have hmv0 : 0 < (mvL k ii jj x).length := by rw [mvL_len]; omega
        have hA : D.length + 1 ≤ maxLen := by unfold maxLen; omega
        have hB : (D.length + 1) * 24 ≤ 140737488355328 := by omega
        clear e0 e1 e2 hcm3 hov hbel heq hgi hi hi0 hst hgn hxl hmt hm hx hx2 hst2 hcl hzo hjl hf
        go_wp2_with fail
        go_region_law
          (first
            | (refine step_append_any _ rfl _ _ _ rfl w.heap.size 22 j0 (.slice none 0 0) 1 24 Try.underlying45 hj hy0 hy1 hy2 rfl Nat.zero_lt_one _ _ _ rfl (World.ownsRow.alloc HVR.out _) ⟨w5.heap.size, 0, none⟩ 1 1 [.slice (some ⟨g5, 0, none⟩) n5 c5] rfl rfl (fun j u hj => new_cellV j hj) HONE.out hA hB hs5a ?_; intro v6 w6 hown6 hgrow6 hn6; have HPU := hid (Lists_push HVL.out (World.ownsRow.alloc HVR.out _) (fun i a b => (HVE.out i a b).below ((Below.refl _ _).alloc (Nat.le_refl _) _)) HOA.out hown6 hgrow6); have HB6 := hid ((HB5.out.alloc hs5 (.cells #[.slice (some ⟨g5, 0, none⟩) n5 c5] 22)).grown hgrow6 hs5a (fun q hq => (World.ownsRow.lt HVR.out q hq).1)); clear hown6 hgrow6 hn6)
            | (go_simp; go_at_call 79; refine (moApply_any _ x k ii jj _ (HZ.out.below HDR.out) hxl1000 HM.out).mono ?_; rintro e w5 ⟨u5, rfl, ho5, hb5⟩; obtain ⟨g5, n5, c5, rfl⟩ := Own.shape ho5 hmv0; have HO5 := hid (ho5.mono hsz); have HA5 := hid (HDR.out.trans hb5 : Below wr.heap.size wr w5); have hb6 := Below_chain HB.out HA5.out; have HB5 := hid hb6; have hs5 := hb6.size; have hs5a := size_alloc3 hs5 (.cells #[.slice (some ⟨g5, 0, none⟩) n5 c5] 22); obtain ⟨vs, hvl, hvr, hve⟩ := HOV.out.below HA5.out; have HVL := hid hvl; have HVR := hid hvr; have HVE := hid hve; have HONE := hid HO5.out.one; have HOA := hid (HO5.out.below ((Below.refl _ _).alloc (Nat.le_refl _) (.cells #[.slice (some ⟨g5, 0, none⟩) n5 c5] 22))); clear ho5 hb5 hb6 hvl hvr hve)
            | fail)
        all_goals
          go_wp2_with (first
            | (go_at_call 99; refine (moNew_any _ _ (D ++ [mvL k ii jj x]) ms _ _ HPU.out (HRM.out.below HB6.out) (by simp) (by simp; omega) (HGM.out _ HGN.out).1 (HGM.out _ HGN.out).2).mono ?_; rintro e w7 ⟨rfl, hb7⟩; have HB7 := hid (Below_chain HB6.out hb7); have HL7 := hid (HPU.out.below hb7); clear hb7)
            | fail)
          go_roundw
          case rel => exact ⟨f', D ++ [mvL k ii jj x], by have := HF1.out; simp; omega, HGN.out, rfl, HST.out, HL7.out, HB7.out⟩
          case measure =>
            have h1 := HL7.out.slLen4
            rw [List.length_append, List.length_singleton] at h1
            have h2 := HSL.out
            first | (rw [h1, h2]; omega) | (simp only [slLen4] at *; omega)
end Go.Proofs.Yteenmndgejeihaa

/- Plain facts: the distances by moves, as a run over what is reached; what stays true in it. -/
namespace Go.Proofs.Yteenmndgejeihaa
open Go.RowKit
set_option linter.unusedVariables false
set_option maxRecDepth 4000

abbrev DS := List Int × List (List Int)
/-- the move t from what stands at k -/
def dsX (ms : List Mv) (k t : Nat) (s : DS) : List Int := mvM (mGet ms t) (s.2.getD k [])
def dsStep (ms : List Mv) (k t : Nat) (s : DS) : DS :=
  if s.1.getD (rankR (dsX ms k t s)) 0 < 0 then (s.1.set (rankR (dsX ms k t s)) (s.1.getD (rankR (s.2.getD k [])) 0 + 1), s.2 ++ [dsX ms k t s]) else s
theorem dsStep_new {ms : List Mv} {k t : Nat} {s : DS} (h : s.1.getD (rankR (dsX ms k t s)) 0 < 0) : dsStep ms k t s = (s.1.set (rankR (dsX ms k t s)) (s.1.getD (rankR (s.2.getD k [])) 0 + 1), s.2 ++ [dsX ms k t s]) := by rw [dsStep, if_pos h]
theorem dsStep_old {ms : List Mv} {k t : Nat} {s : DS} (h : ¬ s.1.getD (rankR (dsX ms k t s)) 0 < 0) : dsStep ms k t s = s := by rw [dsStep, if_neg h]
def dsRow (ms : List Mv) (k : Nat) : Nat → Nat → DS → DS
  | _, 0, s => s
  | t, r + 1, s => dsRow ms k (t + 1) r (dsStep ms k t s)
def dsRun (ms : List Mv) : Nat → Nat → DS → DS
  | 0, _, s => s
  | f + 1, k, s => if k < s.2.length then dsRun ms f (k + 1) (dsRow ms k 0 ms.length s) else s
def ds0 (n : Nat) : DS := ((List.replicate (fact n) (-1)).set 0 0, [upTo n])
/-- the distances of all permutations, by rank -/
def dsL (n : Nat) (ms : List Mv) : List Int := (dsRun ms 121 0 (ds0 n)).1
theorem dsRun_end {ms : List Mv} {k : Nat} {s : DS} (h : ¬ k < s.2.length) : ∀ f, dsRun ms f k s = s
  | 0 => rfl
  | f + 1 => by rw [dsRun, if_neg h]
theorem dsRun_on {ms : List Mv} {k : Nat} {s : DS} (h : k < s.2.length) (f : Nat) : dsRun ms (f + 1) k s = dsRun ms f (k + 1) (dsRow ms k 0 ms.length s) := by rw [dsRun, if_pos h]
def DI (n : Nat) (s : DS) : Prop :=
  s.1.length = fact n ∧ GI n s.2 ∧ (∀ d ∈ s.2, 0 ≤ s.1.getD (rankR d) 0) ∧ ∀ t, t < s.1.length → -1 ≤ s.1.getD t 0 ∧ s.1.getD t 0 < s.2.length
theorem getD_setI {xs : List Int} {i j : Nat} {x : Int} (hi : i < xs.length) : (xs.set i x).getD j 0 = if i = j then x else xs.getD j 0 := by
  rw [List.getD_eq_getElem?_getD, List.getElem?_set]
  by_cases e : i = j
  · rw [if_pos e, if_pos e]
    simp [hi]
  · rw [if_neg e, if_neg e, ← List.getD_eq_getElem?_getD]
theorem fact_pos3 : ∀ m, 0 < fact m
  | 0 => Nat.one_pos
  | m + 1 => by
    have := fact_pos3 m
    exact Nat.mul_pos (by omega) this
theorem rank_upTo (n : Nat) : rankR (upTo n) = 0 := by
  have h : ∀ l : List Int, l.Pairwise (fun a b => a < b) → rankR l = 0 := by
    intro l
    induction l with
    | nil => intro _; rfl
    | cons x t ih =>
      intro hp
      rw [List.pairwise_cons] at hp
      rw [rankR, countLt_cons, rk_none (fun y hy => by have := hp.1 y hy; omega), ih hp.2]
      simp
  exact h _ (rk_upTo n)
theorem DI_first (n : Nat) : DI n (ds0 n) := by
  refine ⟨by simp [ds0], GI_first n, fun d hd => ?_, fun t ht => ?_⟩
  · simp [ds0] at hd
    subst hd
    show 0 ≤ ((List.replicate (fact n) (-1)).set 0 0).getD (rankR (upTo n)) 0
    rw [rank_upTo, getD_setI (by simpa using fact_pos3 n), if_pos rfl]
    exact Int.le_refl _
  · have hl : t < fact n := by simpa [ds0] using ht
    show -1 ≤ ((List.replicate (fact n) (-1)).set 0 0).getD t 0 ∧ ((List.replicate (fact n) (-1)).set 0 0).getD t 0 < (([upTo n] : List (List Int)).length : Int)
    rw [getD_setI (by simpa using fact_pos3 n)]
    split
    · simp
    · rw [List.getD_eq_getElem?_getD, List.getElem?_replicate, if_pos hl]
      simp
theorem dsX_PN {n : Nat} {ms : List Mv} {k t : Nat} {s : DS} (h : DI n s) (hk : k < s.2.length) (hm : mvAt n ms t = true) : PN n (dsX ms k t s) := by
  have : PN n (s.2.getD k []) := by rw [getDM hk]; exact h.2.1.2.2 _ (List.getElem_mem _)
  exact mvM_PN this hm
theorem DI_step {n : Nat} {ms : List Mv} {k t : Nat} {s : DS} (h : DI n s) (hk : k < s.2.length) (hm : mvAt n ms t = true) : DI n (dsStep ms k t s) ∧ k < (dsStep ms k t s).2.length := by
  have hx := dsX_PN h hk hm
  by_cases hneg : s.1.getD (rankR (dsX ms k t s)) 0 < 0
  · rw [dsStep_new hneg]
    obtain ⟨x, hxx⟩ : ∃ x, x = dsX ms k t s := ⟨_, rfl⟩
    rw [← hxx] at hx hneg ⊢
    obtain ⟨O, R⟩ := s
    obtain ⟨h1, h2, h3, h4⟩ := h
    simp only at h1 h2 h3 h4 hk hneg ⊢
    have hxr : rankR x < O.length := by rw [h1]; exact rk_lt hx
    have hd : PN n (R.getD k []) := by rw [getDM hk]; exact h2.2.2 _ (List.getElem_mem _)
    have hdm : R.getD k [] ∈ R := by rw [getDM hk]; exact List.getElem_mem _
    have hxm : x ∉ R := fun hm2 => by have := h3 x hm2; omega
    have hdr : rankR (R.getD k []) < O.length := by rw [h1]; exact rk_lt hd
    have h5 := h4 _ hdr
    have h6 := h3 _ hdm
    refine ⟨⟨by simp [h1], ⟨by simp, ?_, ?_⟩, ?_, ?_⟩, by simp; omega⟩
    · rw [List.nodup_append]
      refine ⟨h2.2.1, by simp, fun a ha b hb e => ?_⟩
      simp at hb
      subst hb
      subst e
      exact hxm ha
    · intro d hd2
      rcases List.mem_append.1 hd2 with hd2 | hd2
      · exact h2.2.2 d hd2
      · simp at hd2; subst hd2; exact hx
    · intro d hd2
      show 0 ≤ (O.set (rankR x) (O.getD (rankR (R.getD k [])) 0 + 1)).getD (rankR d) 0
      rw [getD_setI hxr]
      split
      · omega
      · rename_i hne
        rcases List.mem_append.1 hd2 with hd2 | hd2
        · exact h3 d hd2
        · simp at hd2; subst hd2; exact absurd rfl hne
    · intro t ht
      have ht2 : t < O.length := by simpa using ht
      have := h4 t ht2
      show -1 ≤ (O.set (rankR x) (O.getD (rankR (R.getD k [])) 0 + 1)).getD t 0 ∧ (O.set (rankR x) (O.getD (rankR (R.getD k [])) 0 + 1)).getD t 0 < ((R ++ [x]).length : Int)
      rw [getD_setI hxr]
      simp only [List.length_append, List.length_singleton]
      split <;> omega
  · rw [dsStep_old hneg]
    exact ⟨h, hk⟩
theorem dsRow_inv {n : Nat} {ms : List Mv} {k : Nat} (hg : ∀ t, t < ms.length → mvAt n ms t = true) : ∀ (r t : Nat) (s : DS), t + r ≤ ms.length → DI n s → k < s.2.length → DI n (dsRow ms k t r s) ∧ k < (dsRow ms k t r s).2.length
  | 0, t, s, _, h, hk => ⟨h, hk⟩
  | r + 1, t, s, ht, h, hk => by
    have := DI_step h hk (hg t (by omega))
    exact dsRow_inv hg r (t + 1) _ (by omega) this.1 this.2
theorem dsRun_inv {n : Nat} {ms : List Mv} (hg : ∀ t, t < ms.length → mvAt n ms t = true) : ∀ (f k : Nat) (s : DS), DI n s → DI n (dsRun ms f k s)
  | 0, k, s, h => h
  | f + 1, k, s, h => by
    rw [dsRun]
    split
    · rename_i hk
      exact dsRun_inv hg f (k + 1) _ (dsRow_inv hg _ _ s (by omega) h hk).1
    · exact h
end Go.Proofs.Yteenmndgejeihaa
