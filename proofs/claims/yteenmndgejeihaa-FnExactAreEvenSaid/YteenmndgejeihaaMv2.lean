/- Contracts: moApply, spec.ApplyMove. Conditions: the slice reads as a list; the move is one of its permutations. -/
import Derived.Test.YteenmndgejeihaaMv1
import Derived.Test.YteenmndgejeihaaTake3
import Derived.Test.YteenmndgejeihaaPerm1
namespace Go.Proofs.Yteenmndgejeihaa
open Go.RowKit
set_option linter.unusedVariables false

/-- from which place the element at t comes -/
def mvS (k i j : Int) (t : Nat) : Nat := if k = 0 then (if (t : Int) = i then j.toNat else if (t : Int) = j then i.toNat else t) else if k = 1 then (if (t : Int) < i then (i - 1 - t).toNat else t) else (if (t : Int) < i then ((t : Int) + 1).toNat % i.toNat else t)
/-- the list behind a move -/
def mvL (k i j : Int) (l : List Int) : List Int := (List.range l.length).map (fun t => l.getD (mvS k i j t) 0)
theorem mvL_len (k i j : Int) (l : List Int) : (mvL k i j l).length = l.length := by simp [mvL]
theorem mvL_get {k i j : Int} {l : List Int} {t : Nat} (h : t < l.length) : (mvL k i j l).getD t 0 = l.getD (mvS k i j t) 0 := by
  rw [mvL, List.getD_eq_getElem?_getD, List.getElem?_map, List.getElem?_range h]
  rfl
/-- the first m places are moved -/
def mvT (k i j : Int) (l : List Int) (m : Nat) : List Int := (List.range l.length).map (fun t => if t < m then l.getD (mvS k i j t) 0 else l.getD t 0)
theorem mvT_len (k i j : Int) (l : List Int) (m : Nat) : (mvT k i j l m).length = l.length := by simp [mvT]
theorem mvT_0 (k i j : Int) (l : List Int) : mvT k i j l 0 = l := by
  apply List.ext_getElem
  · rw [mvT_len]
  · intro t h1 h2
    simp only [mvT, List.getElem_map, List.getElem_range, Nat.not_lt_zero, if_false]
    exact getD_at h2
theorem mvT_set {k i j : Int} {l : List Int} {m : Nat} (h : m < l.length) : (mvT k i j l m).set m (l.getD (mvS k i j m) 0) = mvT k i j l (m + 1) := by
  apply List.ext_getElem
  · rw [List.length_set, mvT_len, mvT_len]
  · intro t h1 h2
    rw [List.getElem_set]
    simp only [mvT, List.getElem_map, List.getElem_range]
    by_cases e : m = t
    · subst e
      rw [if_pos rfl, if_pos (by omega)]
    · rw [if_neg e]
      by_cases h3 : t < m
      · rw [if_pos h3, if_pos (by omega)]
      · rw [if_neg h3, if_neg (by omega)]
theorem mvT_end {k i j : Int} {l : List Int} {m : Nat} (h : ∀ t, m ≤ t → mvS k i j t = t) : mvT k i j l m = mvL k i j l := by
  apply List.ext_getElem
  · rw [mvT_len, mvL_len]
  · intro t h1 h2
    simp only [mvT, mvL, List.getElem_map, List.getElem_range]
    by_cases h3 : t < m
    · rw [if_pos h3]
    · rw [if_neg h3, h t (by omega)]
theorem mvL_swap {i j : Nat} {l : List Int} (hij : i < j) (hj : j < l.length) : (l.set i (l.getD j 0)).set j (l.getD i 0) = mvL 0 (i : Int) (j : Int) l := by
  apply List.ext_getElem
  · rw [List.length_set, List.length_set, mvL_len]
  · intro t h1 h2
    rw [List.getElem_set, List.getElem_set]
    simp only [mvL, mvS, List.getElem_map, List.getElem_range, if_pos]
    have ht : t < l.length := by rw [mvL_len] at h2; exact h2
    by_cases e1 : j = t
    · subst e1
      rw [if_pos rfl, if_neg (by omega), if_pos rfl, Int.toNat_natCast]
    · rw [if_neg e1]
      by_cases e2 : i = t
      · subst e2
        rw [if_pos rfl, if_pos rfl, Int.toNat_natCast]
      · rw [if_neg e2, if_neg (by omega), if_neg (by omega)]
        exact (getD_at ht).symm
theorem mv_box (w : World) (k i j : Int) : (w.alloc (mvObj k i j)).cell? ⟨w.heap.size, 0, none⟩ = some (.int .i64 k) ∧ (w.alloc (mvObj k i j)).cell? ⟨w.heap.size, 1, none⟩ = some (.int .i64 i) ∧ (w.alloc (mvObj k i j)).cell? ⟨w.heap.size, 2, none⟩ = some (.int .i64 j) := by
  have h := World.rowIs_alloc w #[.int .i64 k, .int .i64 i, .int .i64 j] 38 (fun t => if t = 0 then .int .i64 k else if t = 1 then .int .i64 i else .int .i64 j) (fun t ht => by
    match t, ht with
    | 0, _ => rfl | 1, _ => rfl | 2, _ => rfl
    | t + 3, h => exact absurd h (by simp))
  exact ⟨h.cell (i := 0) (by simp), h.cell (i := 1) (by simp), h.cell (i := 2) (by simp)⟩
theorem cell_below2 {w w' : World} {p : Addr} {x : Value} (h : w.cell? p = some x) (hb : Below w.heap.size w w') : w'.cell? p = some x :=
  (hb.cell (World.block_lt_of_cell? w p h)).trans h
theorem mvB_two {n k i j : Int} (h : mvB n k i j = true) : 2 ≤ n ∧ (k = 0 ∧ 0 ≤ i ∧ i < j ∧ j < n ∨ (k = 1 ∨ k = 2) ∧ 2 ≤ i ∧ i ≤ n) := by
  unfold mvB at h
  split at h
  · rename_i hk
    rw [Bool.and_eq_true, inB_iff, inB_iff] at h
    omega
  · split at h
    · rename_i hk
      rw [Bool.and_eq_true, inB_iff] at h
      omega
    · simp at h
theorem Own.setN {w : World} {base g n cap : Nat} {xs : List Int} (h : Own w base (.slice (some ⟨g, 0, none⟩) n cap) xs) (j : Nat) (u : Int) :
    Own (w.setCell ⟨g, j, none⟩ (.int .i64 u)) base (.slice (some ⟨g, 0, none⟩) n cap) (xs.set j u) ∧ w.grownBy (w.setCell ⟨g, j, none⟩ (.int .i64 u)) (some g) := by
  have hn := h.len
  subst hn
  exact h.set j u
set_option maxHeartbeats 1000000 in
theorem moApply_any (v : Value) (l : List Int) (k i j : Int) (w : World) (h : Reads w v l) (hl : l.length ≤ 1000) (hm : mvB l.length k i j = true) :
    Calls Try.prog 79 #[v, .agg #[.int .i64 k, .int .i64 i, .int .i64 j]] w fun e w' => ∃ u, e = .returned u ∧ Own w' w.heap.size u (mvL k i j l) ∧ Below w.heap.size w w' := by
  have h2 := mvB_two hm
  obtain ⟨ao, c, rfl, hc1, hcm, h⟩ := h.view
  rcases h with h | ⟨b, off, rfl, hb, hc⟩
  · rw [h] at h2; simp at h2
  have HBA := hid ((Below.refl w.heap.size w).alloc (Nat.le_refl _) (mvObj k i j))
  have HS := hid (show Sits w (.slice (some ⟨b, off, none⟩) l.length c) l from ⟨b, off, c, rfl, hc1, hcm, hb, hc⟩)
  have HBX := hid (mv_box w k i j)
  have HC := hid hc
  clear hc hm
  rcases h2.2 with ⟨rfl, hi0, hij, hjn⟩ | ⟨hk, hi2, hin⟩
  · obtain ⟨i, rfl⟩ : ∃ a : Nat, i = a := ⟨i.toNat, by omega⟩
    obtain ⟨j, rfl⟩ : ∃ a : Nat, j = a := ⟨j.toNat, by omega⟩
    go_enter Try.func79, Try.ntmps79
    go_wp2_with fail
    refine (l1Own_any _ l _ (HS.out.below HBA.out) (by omega)).mono ?_
    rintro e w1 ⟨u, rfl, ho1, hb1, hn1⟩
    obtain ⟨x0, x1, x2⟩ := HBX.out
    have hx0 := cell_below2 x0 hb1
    have hx1 := cell_below2 x1 hb1
    have hx2 := cell_below2 x2 hb1
    have hil : i < l.length := by omega
    have hjl : j < l.length := by omega
    obtain ⟨x, hx⟩ : ∃ x, x = l.getD i 0 := ⟨_, rfl⟩
    obtain ⟨y, hy⟩ : ∃ y, y = l.getD j 0 := ⟨_, rfl⟩
    have hci : w1.cell? ⟨b, off + i, none⟩ = some (.int .i64 x) := by
      rw [hx, getD_at hil]
      exact cell_below2 (cell_below2 (HC.out i hil) HBA.out) hb1
    have hcj : w1.cell? ⟨b, off + j, none⟩ = some (.int .i64 y) := by
      rw [hy, getD_at hjl]
      exact cell_below2 (cell_below2 (HC.out j hjl) HBA.out) hb1
    rcases ho1.form with ⟨rfl, _⟩ | ⟨g, cap, rfl, hg, hglt, hg1, hg2, hgc, hgf⟩
    · exact absurd rfl hn1
    have hgi := hgc i hil
    rw [Nat.zero_add, ← hx] at hgi
    have hgj := hgc j hjl
    rw [Nat.zero_add, ← hy] at hgj
    have hfi := hgf i
    have hfj := hgf j
    have HO1 := hid ho1
    have HB1 := hid hb1
    have HXX := hid hx
    have HYY := hid hy
    have hij2 : i < j := by omega
    clear ho1 hb1 hn1 hgc hgf hx hy x0 x1 x2 h2 HBX
    go_wp2_with fail
    go_region_law (fail)
    all_goals
      have hs := HO1.out.set i y
      have HO2 := hid (Own.below hs.1 (Below.drew (Below.refl _ _)))
      have hgr := hs.2
      have HB2 := hid (show Below w.heap.size w (w1.setCell ⟨g, i, none⟩ (.int .i64 y)).drew from Below.drew ((Below_chain HBA.out HB1.out).setCell (p := ⟨g, i, none⟩) (by show w.heap.size ≤ g; simp at hg; omega) _))
      have hw := HB1.out.size
      have ky0 : (w1.setCell ⟨g, i, none⟩ (.int .i64 y)).drew.cell? ⟨w.heap.size, 1, none⟩ = some (.int .i64 (i : Int)) := hgr.cell hx1 (by simp at hg ⊢; omega)
      have ky1 : (w1.setCell ⟨g, i, none⟩ (.int .i64 y)).drew.cell? ⟨w.heap.size, 2, none⟩ = some (.int .i64 (j : Int)) := hgr.cell hx2 (by simp at hg ⊢; omega)
      have ky2 : (w1.setCell ⟨g, i, none⟩ (.int .i64 y)).drew.cell? ⟨b, off + i, none⟩ = some (.int .i64 x) := hgr.cell hci (by simp at hg ⊢; omega)
      have hlen : (l.set i y).length = l.length := List.length_set
      rcases HO2.out.form with ⟨e, _⟩ | ⟨g', cap', e, _, _, _, _, hgc, hgf⟩
      · cases e
      simp only [Value.slice.injEq, Option.some.injEq, Addr.mk.injEq] at e
      obtain ⟨⟨rfl, _, _⟩, hle, hce⟩ := e
      clear hle hce
      have ky3 := hgc j (by rw [hlen]; exact hjl)
      rw [Nat.zero_add] at ky3
      have ky4 := hgf j
      obtain ⟨w2, hw2⟩ : ∃ w2, w2 = (w1.setCell ⟨g, i, none⟩ (.int .i64 y)).drew := ⟨_, rfl⟩
      rw [← hw2] at HO2 HB2 ky0 ky1 ky2 ky3 ky4 ⊢
      obtain ⟨z, hz⟩ : ∃ z, w2.cell? ⟨g, j, none⟩ = some z := ⟨_, ky3⟩
      clear hs hgr hgc hgf ky3 hw2 hgi hgj hfi hfj hci hcj hx0 hx1 hx2 hlen
      go_wp2_with fail
      go_region_law (fail)
      all_goals
        have HO3 := hid (Own.below (HO2.out.setN j x).1 (Below.drew (Below.refl _ _)))
        have HB3 := hid (show Below w.heap.size w (w2.setCell ⟨g, j, none⟩ (.int .i64 x)).drew from Below.drew (HB2.out.setCell (p := ⟨g, j, none⟩) (by show w.heap.size ≤ g; simp at hg; omega) _))
        obtain ⟨w3, hw3⟩ : ∃ w3, w3 = (w2.setCell ⟨g, j, none⟩ (.int .i64 x)).drew := ⟨_, rfl⟩
        rw [← hw3] at HO3 HB3 ⊢
        have HE := hid (mvL_swap hij2 hjl)
        rw [← HXX.out, ← HYY.out] at HE
        clear hw3
        go_wp2_with fail
        go_returns
        exact ⟨_, rfl, by rw [← HE.out]; exact HO3.out.mono (by simp), HB3.out⟩
  · rcases hk with rfl | rfl
    · obtain ⟨i, rfl⟩ : ∃ a : Nat, i = a := ⟨i.toNat, by omega⟩
      have hi2n : 2 ≤ i := by omega
      have hinn : i ≤ l.length := by omega
      go_enter Try.func79, Try.ntmps79
      go_wp2_with fail
      refine (l1Own_any _ l _ (HS.out.below HBA.out) (by omega)).mono ?_
      rintro e w1 ⟨u, rfl, ho1, hb1, hn1⟩
      obtain ⟨x0, x1, x2⟩ := HBX.out
      have hx0 := cell_below2 x0 hb1
      have hx1 := cell_below2 x1 hb1
      rcases ho1.form with ⟨rfl, _⟩ | ⟨g, cap, rfl, hg, hglt, hg1, hg2, hgc, hgf⟩
      · exact absurd rfl hn1
      have HO1 := hid ho1
      have HB1 := hid (Below_chain HBA.out hb1)
      have hgw : w.heap.size < g := by simp at hg; omega
      have HX1 := hid hx1
      have HEND := hid (show mvT 1 (i : Int) j l i = mvL 1 (i : Int) j l from mvT_end (fun t ht => by unfold mvS; simp; omega))
      clear ho1 hb1 hn1 hgc hgf x0 x1 x2 h2 HBX hg
      go_wp2_with fail
      go_loopw [6] (fun s wr => ∃ t : Nat, t ≤ i ∧ s = .int .i64 t ∧ Own wr (w.heap.size + 1) (.slice (some ⟨g, 0, none⟩) l.length cap) (mvT 1 (i : Int) j l t) ∧ wr.cell? ⟨w.heap.size, 1, none⟩ = some (.int .i64 (i : Int)) ∧ Below w.heap.size w wr) (fun s _ => i - (intOf s).toNat)
      case atStart => exact ⟨0, Nat.zero_le _, rfl, by rw [mvT_0]; exact HO1.out.mono (by simp), HX1.out, HB1.out⟩
      case round =>
        obtain ⟨t, ht, rfl, hown, hbx, hbel⟩ := hrel
        have HO := hid hown
        have HB := hid hbel
        have HBXX := hid hbx
        by_cases hlt : t < i
        · have htl : t < l.length := by omega
          obtain ⟨q, hq⟩ : ∃ q, q = mvS 1 (i : Int) j t := ⟨_, rfl⟩
          have HQ := hid hq
          have hql : q < l.length := by rw [hq]; unfold mvS; rw [if_neg (show ¬ ((1 : Int) = 0) by omega), if_pos rfl, if_pos (show (t : Int) < (i : Int) by omega)]; omega
          obtain ⟨x, hx⟩ : ∃ x, x = l.getD q 0 := ⟨_, rfl⟩
          have HX := hid hx
          have hcx : wr.cell? ⟨b, off + q, none⟩ = some (.int .i64 x) := by rw [hx, getD_at hql]; exact (hbel.cell (by exact hb)).trans (HC.out q hql)
          rcases HO.out.form with ⟨e, _⟩ | ⟨g', cap', e, _, _, _, _, hgc, hgf⟩
          · cases e
          simp only [Value.slice.injEq, Option.some.injEq, Addr.mk.injEq] at e
          obtain ⟨⟨rfl, _, _⟩, hle, hce⟩ := e
          have hgt := hgc t (by rw [mvT_len]; exact htl)
          rw [Nat.zero_add] at hgt
          have hft := hgf t
          obtain ⟨z, hz⟩ : ∃ z, wr.cell? ⟨g, t, none⟩ = some z := ⟨_, hgt⟩
          have hqq : q = i - 1 - t := by rw [hq]; unfold mvS; simp only [show ¬ ((1 : Int) = 0) by omega, if_false, if_true]; rw [if_pos (show (t : Int) < (i : Int) by omega)]; omega
          have hw1 : IntKind.i64.wrap ((i : Int) - 1) = (i : Int) - 1 := IntWalk.i64_in _ (by omega)
          have hw2 : IntKind.i64.wrap ((i : Int) - 1 - (t : Int)) = (q : Int) := by rw [show (i : Int) - 1 - (t : Int) = (q : Int) by omega]; exact IntWalk.i64_in _ (by omega)
          have hw3 : IntKind.i64.wrap (q : Int) = (q : Int) := IntWalk.i64_in _ (by omega)
          have e0 : (0 : Int) ≤ (q : Int) := by omega
          have e1 : (q : Int) < (l.length : Int) := by omega
          clear hqq
          clear hle hce hgt hgc hgf hown hbel hx hq
          go_wp2_with fail
          have HE := hid (show (mvT 1 (i : Int) j l t).set t x = mvT 1 (i : Int) j l (t + 1) by rw [HX.out, HQ.out]; exact mvT_set htl)
          have HSS := hid (HO.out.setN t x)
          go_roundw
          case rel => exact ⟨t + 1, by omega, by go_num, by rw [← HE.out]; exact HSS.out.1, HSS.out.2.cell HBXX.out (by simp; omega), HB.out.setCell (p := ⟨g, t, none⟩) (by show w.heap.size ≤ g; omega) _⟩
          case measure => simp [intOf]; omega
        · obtain rfl : t = i := by omega
          clear hown hbel
          go_wp2_with fail
          go_returns
          exact ⟨_, rfl, by rw [← HEND.out]; exact HO.out.mono (by omega), HB.out⟩
    · obtain ⟨i, rfl⟩ : ∃ a : Nat, i = a := ⟨i.toNat, by omega⟩
      have hi2n : 2 ≤ i := by omega
      have hinn : i ≤ l.length := by omega
      go_enter Try.func79, Try.ntmps79
      go_wp2_with fail
      refine (l1Own_any _ l _ (HS.out.below HBA.out) (by omega)).mono ?_
      rintro e w1 ⟨u, rfl, ho1, hb1, hn1⟩
      obtain ⟨x0, x1, x2⟩ := HBX.out
      have hx0 := cell_below2 x0 hb1
      have hx1 := cell_below2 x1 hb1
      rcases ho1.form with ⟨rfl, _⟩ | ⟨g, cap, rfl, hg, hglt, hg1, hg2, hgc, hgf⟩
      · exact absurd rfl hn1
      have HO1 := hid ho1
      have HB1 := hid (Below_chain HBA.out hb1)
      have hgw : w.heap.size < g := by simp at hg; omega
      have HX1 := hid hx1
      have HEND := hid (show mvT 2 (i : Int) j l i = mvL 2 (i : Int) j l from mvT_end (fun t ht => by unfold mvS; simp; omega))
      clear ho1 hb1 hn1 hgc hgf x0 x1 x2 h2 HBX hg
      go_wp2_with fail
      go_loopw [7] (fun s wr => ∃ t : Nat, t ≤ i ∧ s = .int .i64 t ∧ Own wr (w.heap.size + 1) (.slice (some ⟨g, 0, none⟩) l.length cap) (mvT 2 (i : Int) j l t) ∧ wr.cell? ⟨w.heap.size, 1, none⟩ = some (.int .i64 (i : Int)) ∧ Below w.heap.size w wr) (fun s _ => i - (intOf s).toNat)
      case atStart => exact ⟨0, Nat.zero_le _, rfl, by rw [mvT_0]; exact HO1.out.mono (by simp), HX1.out, HB1.out⟩
      case round =>
        obtain ⟨t, ht, rfl, hown, hbx, hbel⟩ := hrel
        have HO := hid hown
        have HB := hid hbel
        have HBXX := hid hbx
        by_cases hlt : t < i
        · have htl : t < l.length := by omega
          obtain ⟨q, hq⟩ : ∃ q, q = mvS 2 (i : Int) j t := ⟨_, rfl⟩
          have HQ := hid hq
          have hql : q < l.length := by rw [hq]; unfold mvS; simp only [show ¬ ((2 : Int) = 0) by omega, if_false]; rw [if_neg (by omega), if_pos (by omega)]; have h1 := Nat.mod_lt ((t : Int) + 1).toNat (show 0 < ((i : Int)).toNat by omega); simp only [Int.toNat_natCast] at h1 ⊢; omega
          obtain ⟨x, hx⟩ : ∃ x, x = l.getD q 0 := ⟨_, rfl⟩
          have HX := hid hx
          have hcx : wr.cell? ⟨b, off + q, none⟩ = some (.int .i64 x) := by rw [hx, getD_at hql]; exact (hbel.cell (by exact hb)).trans (HC.out q hql)
          rcases HO.out.form with ⟨e, _⟩ | ⟨g', cap', e, _, _, _, _, hgc, hgf⟩
          · cases e
          simp only [Value.slice.injEq, Option.some.injEq, Addr.mk.injEq] at e
          obtain ⟨⟨rfl, _, _⟩, hle, hce⟩ := e
          have hgt := hgc t (by rw [mvT_len]; exact htl)
          rw [Nat.zero_add] at hgt
          have hft := hgf t
          obtain ⟨z, hz⟩ : ∃ z, wr.cell? ⟨g, t, none⟩ = some z := ⟨_, hgt⟩
          have hqq : (q : Int) = ((t : Int) + 1) % (i : Int) := by rw [hq]; unfold mvS; rw [if_neg (by omega), if_neg (by omega), if_pos (by omega), Int.toNat_natCast, show ((t : Int) + 1).toNat = t + 1 by omega]; simp
          have hw1 : IntKind.i64.wrap ((t : Int) + 1) = (t : Int) + 1 := IntWalk.i64_in _ (by omega)
          have e0 : (0 : Int) ≤ (q : Int) := by omega
          have e1 : (q : Int) < (l.length : Int) := by omega
          have hq3 : ((t : Int) + 1) % (i : Int) = (q : Int) := hqq.symm
          have hi0 : ¬ (i : Int) = 0 := by omega
          clear hqq
          clear hle hce hgt hgc hgf hown hbel hx hq
          go_wp2_with fail
          have HE := hid (show (mvT 2 (i : Int) j l t).set t x = mvT 2 (i : Int) j l (t + 1) by rw [HX.out, HQ.out]; exact mvT_set htl)
          have HSS := hid (HO.out.setN t x)
          go_roundw
          case rel => exact ⟨t + 1, by omega, by go_num, by rw [← HE.out]; exact HSS.out.1, HSS.out.2.cell HBXX.out (by simp; omega), HB.out.setCell (p := ⟨g, t, none⟩) (by show w.heap.size ≤ g; omega) _⟩
          case measure => simp [intOf]; omega
        · obtain rfl : t = i := by omega
          clear hown hbel
          go_wp2_with fail
          go_returns
          exact ⟨_, rfl, by rw [← HEND.out]; exact HO.out.mono (by omega), HB.out⟩
end Go.Proofs.Yteenmndgejeihaa
