/- Contracts: the apply methods and movedBy. Conditions: the slice is a row of its own (apply), is not nil (movedBy); the move is one of its permutations. -/
import Derived.Test.YteenmndgejeihaaMvI2
import Derived.Test.YteenmndgejeihaaCopy
import Derived.Test.YteenmndgejeihaaBs3
import Derived.Ground.NamesProg
import Derived.Shelf.Lay
import Derived.Shelf.Slices.Cells
import Derived.Lib.LazyBuf
import Derived.Laws.CopyOwn
namespace Go.Proofs
open Go.Shelf
shelf_lay Lays.n112 Nm 112 at Try as Try.laysRev
end Go.Proofs
namespace Go.Proofs.Yteenmndgejeihaa
open Go.RowKit Go.Shelf
set_option linter.unusedVariables false
set_option maxRecDepth 4000
set_option linter.unusedSimpArgs false

/-- block g is a row that reads as l -/
abbrev RowL (w : World) (g : Nat) (l : List Int) : Prop := w.rowIs g 3 l.length (fun t => .int .i64 (l.getD t 0))
theorem RowL.rename {w : World} {g : Nat} {m : List Int} {n : Nat} {f : Nat → Value} (h : w.rowIs g 3 n f) (hl : m.length = n) (hf : ∀ t, t < n → f t = .int .i64 (m.getD t 0)) : RowL w g m := by
  subst hl
  exact h.congr hf
theorem sw_box (w : World) (i j : Int) : (w.alloc (.cells #[.int .i64 i, .int .i64 j] 90)).cell? ⟨w.heap.size, 0, none⟩ = some (.int .i64 i) ∧ (w.alloc (.cells #[.int .i64 i, .int .i64 j] 90)).cell? ⟨w.heap.size, 1, none⟩ = some (.int .i64 j) := by
  have h := World.rowIs_alloc w #[.int .i64 i, .int .i64 j] 90 (fun t => if t = 0 then .int .i64 i else .int .i64 j) (fun t ht => by
    match t, ht with
    | 0, _ => rfl | 1, _ => rfl
    | t + 2, h => exact absurd h (by simp))
  exact ⟨h.cell (i := 0) (by simp), h.cell (i := 1) (by simp)⟩
theorem sw_row {w : World} {g i j : Nat} {l : List Int} {x y : Int} (hij : i < j) (hj : j < l.length) (hx : x = l.getD i 0) (hy : y = l.getD j 0) (h : RowL w g l) :
    RowL ((w.setCell ⟨g, i, none⟩ (.int .i64 y)).setCell ⟨g, j, none⟩ (.int .i64 x)).drew g (mvL 0 (i : Int) (j : Int) l) := by
  subst hx hy
  refine RowL.rename ((World.rowIs.set h i (.int .i64 (l.getD j 0))).set j (.int .i64 (l.getD i 0))) (mvL_len _ _ _ _) (fun t ht => ?_)
  rw [← mvL_swap hij hj]
  simp only [List.getD_eq_getElem?_getD, List.getElem?_set, List.length_set]
  by_cases h1 : t = j
  · subst h1; simp [hj]
  · by_cases h2 : t = i
    · subst h2; simp [h1, Ne.symm h1, ht]
    · simp [h1, h2, Ne.symm h1, Ne.symm h2]
set_option maxHeartbeats 1000000 in
theorem swap_apply_any (i j : Nat) (g c : Nat) (l : List Int) (w : World) (h : RowL w g l) (hij : i < j) (hj : j < l.length) (hc : l.length ≤ c) (hm : c ≤ 1048576) :
    Calls Try.prog 149 #[.agg #[.int .i64 (i : Int), .int .i64 (j : Int)], .slice (some ⟨g, 0, none⟩) l.length c] w fun e w' => e = .returned (.tuple #[]) ∧ RowL w' g (mvL 0 i j l) ∧ Below g w w' := by
  have hg := World.rowIs.lt h
  have HB := hid ((Below.refl g w).alloc (by omega) (.cells #[.int .i64 (i : Int), .int .i64 (j : Int)] 90))
  have hr := World.rowIs.alloc h (.cells #[.int .i64 (i : Int), .int .i64 (j : Int)] 90)
  obtain ⟨x, hx⟩ : ∃ x, x = l.getD i 0 := ⟨_, rfl⟩
  obtain ⟨y, hy⟩ : ∃ y, y = l.getD j 0 := ⟨_, rfl⟩
  have hi : i < l.length := by omega
  have hci := hr.cell hi
  have hcj := hr.cell hj
  have hfi := hr.frozen i
  have hfj := hr.frozen j
  rw [← hx] at hci
  rw [← hy] at hcj
  have HX := hid hx
  have HY := hid hy
  have HR := hid hr
  have hne : ¬ i = j := by omega
  have q1 : (0 : Int) ≤ (i : Int) := by omega
  have q2 : (i : Int) < (l.length : Int) := by omega
  have q3 : (j : Int) < (l.length : Int) := by omega
  have q4 : (0 : Int) ≤ (j : Int) := by omega
  clear h hr hx hy
  obtain ⟨b0, b1⟩ := sw_box w i j
  go_enter Try.func149, Try.ntmps149
  go_wp2_with fail
  obtain ⟨w0, hw0⟩ : ∃ w0, w0 = w.alloc (.cells #[.int .i64 (i : Int), .int .i64 (j : Int)] 90) := ⟨_, rfl⟩
  rw [← hw0] at HB HR hci hcj hfi hfj b0 b1 ⊢
  have hgw : g ≠ w.heap.size := by omega
  have hgw2 : w.heap.size ≠ g := by omega
  clear hw0
  have hij2 : (⟨g, i, none⟩ : Addr) ≠ ⟨g, j, none⟩ := by simp
  have hji2 : (⟨g, j, none⟩ : Addr) ≠ ⟨g, i, none⟩ := by simp
  refine wp_region_held_drew (S := fun w' => w'.cell? ⟨w.heap.size, 0, none⟩ = some (.int .i64 (i : Int)) ∧ w'.cell? ⟨w.heap.size, 1, none⟩ = some (.int .i64 (j : Int))) (by kernel_rfl) ⟨b0, b1⟩ (fun hHeld => ?_)
  refine wpAnyH_take (i := 0) (v := .slice (some ⟨g, 0, none⟩) l.length c) rfl (by kernel_rfl) (by kernel_rfl) (by kernel_rfl) (fun _ _ _ h => h) (Or.inl ⟨by kernel_rfl, fun w hSw => by (try dsimp only at hSw); go_simp⟩) (by assumption) ?_
  try simp only [Act.put, List.setIfInBounds_toArray, List.set_cons_zero, List.set_cons_succ]
  refine wpAnyH_take (i := 1) (v := .pointer (some ⟨w.heap.size, 0, none⟩)) rfl (by kernel_rfl) (by kernel_rfl) (by kernel_rfl) (fun _ _ _ h => h) (Or.inl ⟨by kernel_rfl, fun w hSw => by (try dsimp only at hSw); go_simp⟩) (by assumption) ?_
  try simp only [Act.put, List.setIfInBounds_toArray, List.set_cons_zero, List.set_cons_succ]
  refine wpAnyH_take (i := 2) (v := .int .i64 (i : Int)) rfl (by kernel_rfl) (by kernel_rfl) (by kernel_rfl) (fun _ _ _ h => h) (Or.inl ⟨by kernel_rfl, fun w hSw => by (try dsimp only at hSw); go_simp⟩) (by assumption) ?_
  try simp only [Act.put, List.setIfInBounds_toArray, List.set_cons_zero, List.set_cons_succ]
  refine wpAnyH_take (i := 3) (v := .slice (some ⟨g, 0, none⟩) l.length c) rfl (by kernel_rfl) (by kernel_rfl) (by kernel_rfl) (fun _ _ _ h => h) (Or.inl ⟨by kernel_rfl, fun w hSw => by (try dsimp only at hSw); go_simp⟩) (by assumption) ?_
  try simp only [Act.put, List.setIfInBounds_toArray, List.set_cons_zero, List.set_cons_succ]
  refine wpAnyH_take (i := 4) (v := .pointer (some ⟨w.heap.size, 1, none⟩)) rfl (by kernel_rfl) (by kernel_rfl) (by kernel_rfl) (fun _ _ _ h => h) (Or.inl ⟨by kernel_rfl, fun w hSw => by (try dsimp only at hSw); go_simp⟩) (by assumption) ?_
  try simp only [Act.put, List.setIfInBounds_toArray, List.set_cons_zero, List.set_cons_succ]
  refine wpAnyH_take (i := 5) (v := .int .i64 (j : Int)) rfl (by kernel_rfl) (by kernel_rfl) (by kernel_rfl) (fun _ _ _ h => h) (Or.inl ⟨by kernel_rfl, fun w hSw => by (try dsimp only at hSw); go_simp⟩) (by assumption) ?_
  try simp only [Act.put, List.setIfInBounds_toArray, List.set_cons_zero, List.set_cons_succ]
  refine wpAnyH_take (i := 6) (v := .slice (some ⟨g, 0, none⟩) l.length c) rfl (by kernel_rfl) (by kernel_rfl) (by kernel_rfl) (fun _ _ _ h => h) (Or.inl ⟨by kernel_rfl, fun w hSw => by (try dsimp only at hSw); go_simp⟩) (by assumption) ?_
  try simp only [Act.put, List.setIfInBounds_toArray, List.set_cons_zero, List.set_cons_succ]
  refine wpAnyH_take (i := 7) (v := .pointer (some ⟨w.heap.size, 1, none⟩)) rfl (by kernel_rfl) (by kernel_rfl) (by kernel_rfl) (fun _ _ _ h => h) (Or.inl ⟨by kernel_rfl, fun w hSw => by (try dsimp only at hSw); go_simp⟩) (by assumption) ?_
  try simp only [Act.put, List.setIfInBounds_toArray, List.set_cons_zero, List.set_cons_succ]
  refine wpAnyH_take (i := 8) (v := .int .i64 (j : Int)) rfl (by kernel_rfl) (by kernel_rfl) (by kernel_rfl) (fun _ _ _ h => h) (Or.inl ⟨by kernel_rfl, fun w hSw => by (try dsimp only at hSw); go_simp⟩) (by assumption) ?_
  try simp only [Act.put, List.setIfInBounds_toArray, List.set_cons_zero, List.set_cons_succ]
  refine wpAnyH_take (i := 9) (v := .pointer (some ⟨g, j, none⟩)) rfl (by kernel_rfl) (by kernel_rfl) (by kernel_rfl) (fun _ _ _ h => h) (Or.inl ⟨by kernel_rfl, fun w hSw => by (try dsimp only at hSw); go_simp⟩) (by assumption) ?_
  try simp only [Act.put, List.setIfInBounds_toArray, List.set_cons_zero, List.set_cons_succ]
  refine wpAnyH_take (i := 11) (v := .slice (some ⟨g, 0, none⟩) l.length c) rfl (by kernel_rfl) (by kernel_rfl) (by kernel_rfl) (fun _ _ _ h => h) (Or.inl ⟨by kernel_rfl, fun w hSw => by (try dsimp only at hSw); go_simp⟩) (by assumption) ?_
  try simp only [Act.put, List.setIfInBounds_toArray, List.set_cons_zero, List.set_cons_succ]
  refine wpAnyH_take (i := 12) (v := .pointer (some ⟨w.heap.size, 0, none⟩)) rfl (by kernel_rfl) (by kernel_rfl) (by kernel_rfl) (fun _ _ _ h => h) (Or.inl ⟨by kernel_rfl, fun w hSw => by (try dsimp only at hSw); go_simp⟩) (by assumption) ?_
  try simp only [Act.put, List.setIfInBounds_toArray, List.set_cons_zero, List.set_cons_succ]
  refine wpAnyH_take (i := 13) (v := .int .i64 (i : Int)) rfl (by kernel_rfl) (by kernel_rfl) (by kernel_rfl) (fun _ _ _ h => h) (Or.inl ⟨by kernel_rfl, fun w hSw => by (try dsimp only at hSw); go_simp⟩) (by assumption) ?_
  try simp only [Act.put, List.setIfInBounds_toArray, List.set_cons_zero, List.set_cons_succ]
  refine wpAnyH_take (i := 14) (v := .pointer (some ⟨g, i, none⟩)) rfl (by kernel_rfl) (by kernel_rfl) (by kernel_rfl) (fun _ _ _ h => h) (Or.inl ⟨by kernel_rfl, fun w hSw => by (try dsimp only at hSw); go_simp⟩) (by assumption) ?_
  try simp only [Act.put, List.setIfInBounds_toArray, List.set_cons_zero, List.set_cons_succ]
  refine wpAnyH_ready (rs := [10, 15]) (by kernel_rfl) (by simp) (AllReadyH.cons rfl (fun K hK => ?_) (AllReadyH.cons rfl (fun K hK => ?_) AllReadyH.nil))
  · go_simp
    refine hK.out _ _ ⟨b0, b1⟩ (fun hHeld => ?_)
    clear hK K
    try simp only [Act.put, List.setIfInBounds_toArray, List.set_cons_zero, List.set_cons_succ]
    refine wpAnyH_ready (rs := [15]) (by kernel_rfl) (by simp) (AllReadyH.cons rfl (fun K hK => ?_) AllReadyH.nil)
    go_simp
    refine hK.out _ _ ⟨b0, b1⟩ (fun hHeld => ?_)
    clear hK K
    try simp only [Act.put, List.setIfInBounds_toArray, List.set_cons_zero, List.set_cons_succ]
    refine wpAnyH_take (i := 16) (v := .pointer (some ⟨g, i, none⟩)) rfl (by kernel_rfl) (by kernel_rfl) (by kernel_rfl) (fun _ _ _ h => h) (Or.inl ⟨by kernel_rfl, fun w hSw => by (try dsimp only at hSw); go_simp⟩) (by assumption) ?_
    try simp only [Act.put, List.setIfInBounds_toArray, List.set_cons_zero, List.set_cons_succ]
    refine wpAnyH_ready (rs := [17]) (by kernel_rfl) (by simp) (AllReadyH.cons rfl (fun K hK => ?_) AllReadyH.nil)
    go_simp
    refine hK.out _ _ (by go_keep) (fun hHeld => ?_)
    clear hK K
    try simp only [Act.put, List.setIfInBounds_toArray, List.set_cons_zero, List.set_cons_succ]
    refine wpAnyH_take (i := 18) (v := .pointer (some ⟨g, j, none⟩)) rfl (by kernel_rfl) (by kernel_rfl) (by kernel_rfl) (fun _ _ _ h => h) (Or.inl ⟨by kernel_rfl, fun w hSw => by (try dsimp only at hSw); go_simp⟩) (by assumption) ?_
    try simp only [Act.put, List.setIfInBounds_toArray, List.set_cons_zero, List.set_cons_succ]
    refine wpAnyH_ready (rs := [19]) (by kernel_rfl) (by simp) (AllReadyH.cons rfl (fun K hK => ?_) AllReadyH.nil)
    go_simp
    refine hK.out _ _ (by go_keep) (fun hHeld => ?_)
    clear hK K
    try simp only [Act.put, List.setIfInBounds_toArray, List.set_cons_zero, List.set_cons_succ]
    refine wpAnyH_done (by kernel_rfl) ?_ _
    have HW := hid (sw_row hij hj HX.out HY.out HR.out)
    have HBB := hid (Below.drew ((HB.out.setCell (p := ⟨g, i, none⟩) (Nat.le_refl _) (.int .i64 y)).setCell (p := ⟨g, j, none⟩) (Nat.le_refl _) (.int .i64 x)))
    go_wp2_with fail
    go_end0
    exact ⟨rfl, HW.out, HBB.out⟩
  · go_simp
    refine hK.out _ _ ⟨b0, b1⟩ (fun hHeld => ?_)
    clear hK K
    try simp only [Act.put, List.setIfInBounds_toArray, List.set_cons_zero, List.set_cons_succ]
    refine wpAnyH_ready (rs := [10]) (by kernel_rfl) (by simp) (AllReadyH.cons rfl (fun K hK => ?_) AllReadyH.nil)
    go_simp
    refine hK.out _ _ ⟨b0, b1⟩ (fun hHeld => ?_)
    clear hK K
    try simp only [Act.put, List.setIfInBounds_toArray, List.set_cons_zero, List.set_cons_succ]
    refine wpAnyH_take (i := 16) (v := .pointer (some ⟨g, i, none⟩)) rfl (by kernel_rfl) (by kernel_rfl) (by kernel_rfl) (fun _ _ _ h => h) (Or.inl ⟨by kernel_rfl, fun w hSw => by (try dsimp only at hSw); go_simp⟩) (by assumption) ?_
    try simp only [Act.put, List.setIfInBounds_toArray, List.set_cons_zero, List.set_cons_succ]
    refine wpAnyH_ready (rs := [17]) (by kernel_rfl) (by simp) (AllReadyH.cons rfl (fun K hK => ?_) AllReadyH.nil)
    go_simp
    refine hK.out _ _ (by go_keep) (fun hHeld => ?_)
    clear hK K
    try simp only [Act.put, List.setIfInBounds_toArray, List.set_cons_zero, List.set_cons_succ]
    refine wpAnyH_take (i := 18) (v := .pointer (some ⟨g, j, none⟩)) rfl (by kernel_rfl) (by kernel_rfl) (by kernel_rfl) (fun _ _ _ h => h) (Or.inl ⟨by kernel_rfl, fun w hSw => by (try dsimp only at hSw); go_simp⟩) (by assumption) ?_
    try simp only [Act.put, List.setIfInBounds_toArray, List.set_cons_zero, List.set_cons_succ]
    refine wpAnyH_ready (rs := [19]) (by kernel_rfl) (by simp) (AllReadyH.cons rfl (fun K hK => ?_) AllReadyH.nil)
    go_simp
    refine hK.out _ _ (by go_keep) (fun hHeld => ?_)
    clear hK K
    try simp only [Act.put, List.setIfInBounds_toArray, List.set_cons_zero, List.set_cons_succ]
    refine wpAnyH_done (by kernel_rfl) ?_ _
    have HW := hid (sw_row hij hj HX.out HY.out HR.out)
    have HBB := hid (Below.drew ((HB.out.setCell (p := ⟨g, i, none⟩) (Nat.le_refl _) (.int .i64 y)).setCell (p := ⟨g, j, none⟩) (Nat.le_refl _) (.int .i64 x)))
    go_wp2_with fail
    go_end0
    exact ⟨rfl, HW.out, HBB.out⟩
theorem below_setC7 {B g : Nat} {a : World} (hb : B ≤ g) : ∀ (vs : List Value) (o : Nat) (w : World), Below B a w → Below B a (w.setCells g o vs)
  | [], _, _, h => h
  | v :: r, o, w, h => below_setC7 hb r (o + 1) _ (h.setCell (by exact hb) v)
theorem mvL_rev {i : Nat} {l : List Int} (hi : i ≤ l.length) {t : Nat} (ht : t < l.length) : (mvL 1 (i : Int) 0 l).getD t 0 = if t < i then ((l.take i).reverse).getD t 0 else l.getD t 0 := by
  rw [mvL_get ht, mvS_1]
  by_cases h : t < i
  · rw [if_pos (by omega), if_pos h]
    have h2 : t < (l.take i).reverse.length := by simp; omega
    have h3 : ((i : Int) - 1 - (t : Int)).toNat = i - 1 - t := by omega
    rw [h3]
    simp only [List.getD_eq_getElem?_getD]
    rw [List.getElem?_reverse (by simpa using h2), List.length_take, Nat.min_eq_left hi, List.getElem?_take, if_pos (by omega)]
  · rw [if_neg (by omega), if_neg h]
theorem mvL_rot {i : Nat} {l : List Int} (h2 : 2 ≤ i) (hi : i ≤ l.length) {t : Nat} (ht : t < l.length) : (mvL 2 (i : Int) 0 l).getD t 0 = if t = i - 1 then l.getD 0 0 else if t < i then l.getD (t + 1) 0 else l.getD t 0 := by
  rw [mvL_get ht, mvS_2]
  by_cases h : t < i
  · rw [if_pos (by omega), show ((t : Int) + 1).toNat = t + 1 by omega, Int.toNat_natCast, mod_succ h]
    by_cases h3 : t = i - 1
    · rw [if_pos h3, if_pos (by omega)]
    · rw [if_neg h3, if_neg (by omega), if_pos h]
  · rw [if_neg (by omega), if_neg (by omega), if_neg h]
theorem rev_apply_any (i : Nat) (g c : Nat) (l : List Int) (w : World) (h : RowL w g l) (hi : i ≤ l.length) (hc : l.length ≤ c) (hm : c ≤ 1048576) :
    Calls Try.prog 152 #[.agg #[.int .i64 (i : Int)], .slice (some ⟨g, 0, none⟩) l.length c] w fun e w' => e = .returned (.tuple #[]) ∧ RowL w' g (mvL 1 i 0 l) ∧ Below g w w' := by
  have hg := World.rowIs.lt h
  have HB := hid ((Below.refl g w).alloc (by omega) (.cells #[.int .i64 (i : Int)] 94))
  have HR := hid (World.rowIs.alloc h (.cells #[.int .i64 (i : Int)] 94))
  have q1 : (0 : Int) ≤ (i : Int) := by omega
  have q2 : (i : Int) ≤ (c : Int) := by omega
  clear h
  go_enter Try.func152, Try.ntmps152
  go_wp2_with fail
  refine (Any.slices_Reverse_int_cells Try.laysRev g 0 i _ l _ hi (by omega) (fun t ht => ?_) (fun t _ => HR.out.frozen _)).mono ?_
  · rw [Nat.zero_add]
    exact HR.out.cell ht
  · rintro e w6 ⟨rfl, q, hw6⟩
    have HW := hid (show RowL w6 g (mvL 1 i 0 l) by
      rw [hw6]
      refine RowL.rename (rowIs_setCells _ _ _ _ (show World.rowIs (World.drewN _ q) g 3 l.length _ from HR.out)) (mvL_len _ _ _ _) (fun t ht => ?_)
      rw [mvL_rev hi ht]
      simp only [List.length_map, List.length_reverse, List.length_take, Nat.min_eq_left hi, Nat.zero_le, Nat.zero_add, true_and, Nat.sub_zero]
      by_cases h1 : t < i
      · rw [if_pos h1, if_pos h1, List.getElem?_map]
        have h2 : t < (l.take i).reverse.length := by simp; omega
        rw [List.getElem?_eq_getElem h2, List.getD_eq_getElem?_getD, List.getElem?_eq_getElem h2]
        rfl
      · rw [if_neg h1, if_neg h1])
    have HB6 := hid (show Below g w w6 by rw [hw6]; exact below_setC7 (Nat.le_refl _) _ _ _ (below_drewN HB.out q))
    clear hw6
    go_wp2_with fail
    go_end0
    exact ⟨rfl, HW.out, HB6.out⟩
theorem RowL.heap {w : World} {g : Nat} {l : List Int} (h : RowL w g l) : w.heap[g]? = some (.cells (l.map (Value.int .i64)).toArray 3 (0, 0)) := by
  obtain ⟨c, hc, hs, hf⟩ := h
  rw [hc]
  congr 2
  apply Array.ext
  · simp [hs]
  · intro t h1 h2
    have := hf t (by omega)
    rw [Array.getElem?_eq_getElem h1, Option.some.injEq] at this
    rw [this]
    have h3 : t < l.length := by simpa using h2
    simp [List.getD_eq_getElem?_getD, h3]
theorem RowL.ofHeap {w : World} {g : Nat} {l : List Int} (h : w.heap[g]? = some (.cells (l.map (Value.int .i64)).toArray 3 (0, 0))) : RowL w g l :=
  ⟨_, h, by simp, fun t ht => by simp [ht]⟩
theorem rot_src {w : World} {g i : Nat} {l : List Int} (h : RowL w g l) (hi : i ≤ l.length) : ∀ j v, (((l.drop 1).take (i - 1)).map (Value.int .i64))[j]? = some v → w.cell? ((⟨g, 1, none⟩ : Addr).add j) = some v := by
  intro j v hj
  obtain ⟨x, hx, rfl⟩ := List.getElem?_map .. ▸ hj |> Option.map_eq_some_iff.1
  obtain ⟨hlt, hx2⟩ := List.getElem?_eq_some_iff.1 hx
  have hlt2 : j < i - 1 := by simp at hlt; omega
  have e : (⟨g, 1, none⟩ : Addr).add j = ⟨g, 1 + j, none⟩ := by
    by_cases h : j = 0 <;> simp [Addr.add, h]
  rw [e, h.cell (by omega)]
  simp only [List.getElem_take, List.getElem_drop] at hx2
  rw [← hx2, getD_at (by omega)]
theorem rot_row {w0 w1 W : World} {g i : Nat} {l : List Int} (hi : i ≤ l.length) (h : RowL w1 g l) (hb : Below g w0 w1)
    (hW : w1.setRow g ((l.map (Value.int .i64)).toArray.toList.take 0 ++ (((l.drop 1).take (i - 1)).map (Value.int .i64) ++ (l.map (Value.int .i64)).toArray.toList.drop (0 + (((l.drop 1).take (i - 1)).map (Value.int .i64)).length))).toArray = W) :
    RowL W g ((l.drop 1).take (i - 1) ++ l.drop (i - 1)) ∧ (∀ a : Addr, a.block ≠ g → W.cell? a = w1.cell? a) ∧ Below g w0 W := by
  have hl : (((l.drop 1).take (i - 1)).map (Value.int .i64)).length = i - 1 := by rw [List.length_map, List.length_take, List.length_drop]; omega
  have e : ((l.map (Value.int .i64)).toArray.toList.take 0 ++ (((l.drop 1).take (i - 1)).map (Value.int .i64) ++ (l.map (Value.int .i64)).toArray.toList.drop (0 + (((l.drop 1).take (i - 1)).map (Value.int .i64)).length))) = ((l.drop 1).take (i - 1) ++ l.drop (i - 1)).map (Value.int .i64) := by
    rw [hl, Nat.zero_add, List.take_zero, List.nil_append, List.map_append, List.map_drop]
  rw [e] at hW
  subst hW
  refine ⟨RowL.ofHeap (setRow_heap _ _ _ _ _ _ (RowL.heap h)), fun a ha => ?_, below_setRow hb (Nat.le_refl _) _⟩
  unfold World.cell?
  rw [setRow_other w1 g a.block _ ha]
theorem rot_last {w : World} {g i : Nat} {l : List Int} {x : Int} (h2 : 2 ≤ i) (hi : i ≤ l.length) (hx : x = l.getD 0 0) (h : RowL w g ((l.drop 1).take (i - 1) ++ l.drop (i - 1))) :
    RowL (w.setCell ⟨g, i - 1, none⟩ (.int .i64 x)) g (mvL 2 (i : Int) 0 l) := by
  have hl : ((l.drop 1).take (i - 1) ++ l.drop (i - 1)).length = l.length := by simp; omega
  refine RowL.rename (World.rowIs.set h (i - 1) (.int .i64 x)) (by rw [mvL_len, hl]) (fun t ht => ?_)
  rw [hl] at ht
  rw [mvL_rot h2 hi ht]
  by_cases h1 : t = i - 1
  · rw [if_pos h1, if_pos h1, hx]
  · rw [if_neg h1, if_neg h1]
    congr 1
    simp only [List.getD_eq_getElem?_getD]
    by_cases h3 : t < i
    · rw [if_pos h3, List.getElem?_append_left (by simp; omega), List.getElem?_take, if_pos (by omega), List.getElem?_drop, Nat.add_comm]
    · rw [if_neg h3, List.getElem?_append_right (by simp; omega), List.getElem?_drop]
      congr 2
      simp
      omega
theorem rot_apply_any (i : Nat) (g c : Nat) (l : List Int) (w : World) (h : RowL w g l) (h2 : 2 ≤ i) (hi : i ≤ l.length) (hc : l.length ≤ c) (hm : c ≤ 1048576) :
    Calls Try.prog 153 #[.agg #[.int .i64 (i : Int)], .slice (some ⟨g, 0, none⟩) l.length c] w fun e w' => e = .returned (.tuple #[]) ∧ RowL w' g (mvL 2 i 0 l) ∧ Below g w w' := by
  have hg := World.rowIs.lt h
  have HB := hid ((Below.refl g w).alloc (by omega) (.cells #[.int .i64 (i : Int)] 95))
  have hr := World.rowIs.alloc h (.cells #[.int .i64 (i : Int)] 95)
  have hc0 := hr.cell (i := 0) (by omega)
  obtain ⟨x, hx⟩ : ∃ x, x = l.getD 0 0 := ⟨_, rfl⟩
  rw [← hx] at hc0
  have HX := hid hx
  have HR := hid hr
  have q1 : (1 : Int) ≤ (i : Int) := by omega
  have q2 : (i : Int) ≤ (c : Int) := by omega
  have q3 : (0 : Int) < (l.length : Int) := by omega
  obtain ⟨i0, hii, hz0, hz1, hz2⟩ := info_parts Try.info3
  have HSZ := hid (show (Try.prog.info? 3).map (·.size) = some 1 by rw [hii]; simp [hz1])
  have HG := hid (RowL.heap hr)
  have HCS := hid (show (((l.drop 1).take (i - 1)).map (Value.int .i64)).length = Nat.min (i - 1) l.length by rw [List.length_map, List.length_take, List.length_drop, show Nat.min (i - 1) l.length = i - 1 from Nat.min_eq_left (by omega)]; omega)
  have HSRC := hid (rot_src hr hi)
  have HFIT := hid (show 0 + (((l.drop 1).take (i - 1)).map (Value.int .i64)).length ≤ ((l.map (Value.int .i64)).toArray).size by simp; omega)
  have hbox : (w.alloc (.cells #[.int .i64 (i : Int)] 95)).cell? ⟨w.heap.size, 0, none⟩ = some (.int .i64 (i : Int)) := by
    have h := World.rowIs_alloc w #[.int .i64 (i : Int)] 95 (fun t => .int .i64 (i : Int)) (fun t ht => by
      match t, ht with
      | 0, _ => rfl
      | t + 1, h => exact absurd h (by simp))
    exact h.cell (i := 0) (by simp)
  have HBOX := hid hbox
  have hne : w.heap.size ≠ g := by omega
  clear h hr hx hbox
  go_enter Try.func153, Try.ntmps153
  go_wp2_with (first
    | (with_reducible refine wpList_copy_own rfl (.tmp 8) (.tmp 13) 22 22 rfl 3 Try.underlying22 HSZ.out g 0 _ _ ⟨g, 1, none⟩ _ _ rfl rfl _ 3 HG.out (((l.drop 1).take (i - 1)).map (Value.int .i64)) HCS.out HSRC.out HFIT.out int_one ?_; generalize hw2 : World.setRow _ g _ = w2; obtain ⟨hr2, hbx2, hb2⟩ := rot_row hi HR.out HB.out hw2; have hbx3 := (hbx2 _ hne).trans HBOX.out; have hcz := hr2.cell (i := i - 1) (by simp; omega); have hfz := hr2.frozen (i - 1); have HR2 := hid hr2; have HB2 := hid hb2; clear hw2 hr2 hbx2 hb2)
    | fail)
  have HW := hid (rot_last h2 hi HX.out HR2.out)
  have HBB := hid (HB2.out.setCell (p := ⟨g, i - 1, none⟩) (Nat.le_refl _) (.int .i64 x))
  clear hcz hfz hbx3
  go_end0
  exact ⟨rfl, HW.out, HBB.out⟩
theorem movedBy_any (m : Mv) (v : Value) (l : List Int) (w : World) (h : Sits w v l) (hl : l.length ≤ 1048576) (hm : mvB l.length m.1 m.2.1 m.2.2 = true) :
    Calls Try.prog 80 #[mvV m, v] w fun e w' => e = .returned (.slice (some ⟨w.heap.size, 0, none⟩) l.length l.length) ∧ RowL w' w.heap.size (mvM m l) ∧ Below w.heap.size w w' := by
  have HS := hid h
  have h2 := mvB_two hm
  obtain ⟨k, i, j⟩ := m
  simp only at hm h2 ⊢
  rcases h2.2 with ⟨rfl, h0, h1, h3⟩ | ⟨hk, h0, h1⟩
  · obtain ⟨i, rfl⟩ : ∃ a : Nat, i = a := ⟨i.toNat, by omega⟩
    obtain ⟨j, rfl⟩ : ∃ a : Nat, j = a := ⟨j.toNat, by omega⟩
    have hv : mvV (0, (i : Int), (j : Int)) = vSwap i j := by simp [mvV]
    rw [hv]
    clear hv hm h2
    go_enter Try.func80, Try.ntmps80
    go_wp2_with (first
      | (go_at_call 109; refine (copyOf_any _ l _ HS.out hl).mono ?_; rintro e w1 ⟨rfl, hr, hb1⟩; have HR1 := hid hr; have HB1 := hid hb1; clear hr hb1)
      | (go_at_call 149; refine (swap_apply_any i j w.heap.size l.length l _ HR1.out (by omega) (by omega) (Nat.le_refl _) hl).mono ?_; rintro e w2 ⟨rfl, hr, hb2⟩; have HR2 := hid hr; have HB2 := hid (HB1.out.trans hb2); clear hr hb2)
      | fail)
    go_returns
    exact ⟨rfl, HR2.out, HB2.out⟩
  · have hj : j = 0 := by
      rw [mvB_12 hk, Bool.and_eq_true, decide_eq_true_eq] at hm
      exact hm.2
    subst hj
    obtain ⟨i, rfl⟩ : ∃ a : Nat, i = a := ⟨i.toNat, by omega⟩
    rcases hk with rfl | rfl
    · have hv : mvV (1, (i : Int), 0) = vRev i := by simp [mvV]
      rw [hv]
      clear hv hm h2
      go_enter Try.func80, Try.ntmps80
      go_wp2_with (first
        | (go_at_call 109; refine (copyOf_any _ l _ HS.out hl).mono ?_; rintro e w1 ⟨rfl, hr, hb1⟩; have HR1 := hid hr; have HB1 := hid hb1; clear hr hb1)
        | (go_at_call 152; refine (rev_apply_any i w.heap.size l.length l _ HR1.out (by omega) (Nat.le_refl _) hl).mono ?_; rintro e w2 ⟨rfl, hr, hb2⟩; have HR2 := hid hr; have HB2 := hid (HB1.out.trans hb2); clear hr hb2)
        | fail)
      go_returns
      exact ⟨rfl, HR2.out, HB2.out⟩
    · have hv : mvV (2, (i : Int), 0) = vRot i := by simp [mvV]
      rw [hv]
      clear hv hm h2
      go_enter Try.func80, Try.ntmps80
      go_wp2_with (first
        | (go_at_call 109; refine (copyOf_any _ l _ HS.out hl).mono ?_; rintro e w1 ⟨rfl, hr, hb1⟩; have HR1 := hid hr; have HB1 := hid hb1; clear hr hb1)
        | (go_at_call 153; refine (rot_apply_any i w.heap.size l.length l _ HR1.out (by omega) (by omega) (Nat.le_refl _) hl).mono ?_; rintro e w2 ⟨rfl, hr, hb2⟩; have HR2 := hid hr; have HB2 := hid (HB1.out.trans hb2); clear hr hb2)
        | fail)
      go_returns
      exact ⟨rfl, HR2.out, HB2.out⟩
end Go.Proofs.Yteenmndgejeihaa
