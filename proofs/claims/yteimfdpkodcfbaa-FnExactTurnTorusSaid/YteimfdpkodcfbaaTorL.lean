/- Contracts of the laws' helpers on tori: szTorus, toTorus, eqTorus, markTorus, heldTorus. Conditions: the rows read as lists of lists. -/
import Derived.Test.YteimfdpkodcfbaaBs3
import Derived.Test.YteimfdpkodcfbaaPair1
namespace Go.Proofs.Yteimfdpkodcfbaa
open Go.RowKit Go.Maps
set_option linter.unusedVariables false
set_option maxRecDepth 4000

theorem ListsA.below9 {w w' : World} {B : Nat} {v : Value} {L : List (List Int)} (h : ListsA w B v L) (hb : Below w.heap.size w w') : ListsA w' B v L := by
  obtain ⟨vs, a, b, c, d⟩ := h
  exact ⟨vs, a, ownsRow_below b hb, fun i x y => (c i x y).below hb, d⟩
theorem ListsU.stay9 {w w' : World} {B H : Nat} {v : Value} {L : List (List Int)} (h : ListsU w B H v L) (hk : ∀ k, B ≤ k → k < w.heap.size → w'.heap[k]? = w.heap[k]?) : ListsU w' B H v L := by
  obtain ⟨vs, a, b, c, d, e⟩ := h
  exact ⟨vs, a, ownsRow_stay b hk, fun i x y => (c i x y).stay hk, d, e⟩
theorem Lists.slice9 {w : World} {B : Nat} {v : Value} {L : List (List Int)} (h : Lists w B v L) : ∃ ao c, v = .slice ao L.length c := by
  rcases h.form with ⟨rfl, rfl⟩ | ⟨g, cap, rfl, _⟩
  · exact ⟨none, 0, rfl⟩
  · exact ⟨_, _, rfl⟩
theorem sz_al9 {n : Nat} {w : World} (h : n ≤ w.heap.size) (o : Obj) : n ≤ (w.alloc o).heap.size := by simp; omega
theorem slot_row (w : World) (g : Nat) (T : TypeId) (hg : g = w.heap.size) : (w.alloc (.cells #[.slice none 0 0] T)).rowIs g T 1 (fun _ => .slice none 0 0) := by
  subst hg
  exact World.rowIs_alloc w #[.slice none 0 0] T _ (fun t ht => by
    match t, ht with
    | 0, _ => rfl
    | t + 1, h => exact absurd h (by simp))
theorem slot_cells {w : World} {q : Nat} {T : TypeId} (h : w.rowIs q T 1 (fun _ => .slice none 0 0)) : ∀ off y, w.cell? ⟨q, off, none⟩ = some y → (∀ k z, y ≠ .int k z) ∧ (∀ a n c, y ≠ .slice (some a) n c) := by
  intro off y hy
  obtain ⟨c, hc, hs, hf⟩ := h
  unfold World.cell? at hy
  simp only [hc] at hy
  by_cases ho : off < 1
  · obtain rfl : off = 0 := by omega
    rw [hf 0 (by omega)] at hy
    injection hy with hy
    subst hy
    exact ⟨by simp, by simp⟩
  · have : c[off]? = none := Array.getElem?_eq_none (by omega)
    simp [this] at hy
theorem szTorus_sum (v : Value) (L : List (List Int)) (m : Int) (w : World) (h : ReadsL w v L) (h0 : 0 ≤ m) (h1 : m ≤ 1073741824) :
    Calls Try.prog 44 #[.agg #[v], .int .i64 m] w fun e w' => ∃ q : Int, e = .returned (.int .i64 q) ∧ q ≤ m ∧ (0 ≤ q → (L.length : Int) + (preLen L L.length : Int) ≤ m) ∧ Below w.heap.size w w' := by
  have hs := h
  obtain ⟨a, c, rfl, _⟩ := hs
  have HB1 := hid (show Below w.heap.size w (w.alloc (.cells #[.slice a L.length c] 45)) from (Below.refl _ _).alloc (Nat.le_refl _) _)
  have HR := hid (h.below HB1.out)
  clear h
  go_enter Try.func44, Try.ntmps44
  go_wp2_with fail
  refine (szIntSS_sum _ L m _ HR.out h0 h1).mono ?_
  rintro e w2 ⟨q, rfl, rfl, hq1, hq2⟩
  by_cases hq : 0 ≤ q
  · have hq' : ¬ q < 0 := by omega
    have HQ := hid (hq2 hq)
    clear hq2
    go_wp2_with fail
    go_ret
    exact ⟨q, rfl, hq1, fun _ => HQ.out, HB1.out⟩
  · have hq' : q < 0 := by omega
    clear hq2
    go_wp2_with fail
    go_ret
    exact ⟨-1, rfl, by omega, fun h => absurd h (by omega), HB1.out⟩
theorem toTorus_any (v : Value) (L : List (List Int)) (w : World) (h : ReadsL w v L) (hl : L.length ≤ 1048576) (hl2 : ∀ i (hi : i < L.length), L[i].length ≤ 1048576) :
    Calls Try.prog 46 #[.agg #[v]] w fun e w' => ∃ g, e = .returned (.agg #[.slice (some ⟨g, 0, none⟩) L.length L.length]) ∧ w.heap.size ≤ g ∧ SitsL w' (.slice (some ⟨g, 0, none⟩) L.length L.length) L ∧ ListsU w' g w'.heap.size (.slice (some ⟨g, 0, none⟩) L.length L.length) L ∧ Below w.heap.size w w' := by
  have hs := h
  obtain ⟨a, c, rfl, _⟩ := hs
  obtain ⟨w1, hw1⟩ : ∃ w1, w1 = ((w.alloc (.cells #[.slice a L.length c] 45)).alloc (.cells #[.slice none 0 0] 48)).alloc (.cells #[.slice none 0 0] 48) := ⟨_, rfl⟩
  have hB1 : Below w.heap.size w w1 := by rw [hw1]; exact (((Below.refl _ _).alloc (Nat.le_refl _) _).alloc (sz_al9 (Nat.le_refl _) _) _).alloc (sz_al9 (sz_al9 (Nat.le_refl _) _) _) _
  have HB1 := hid hB1
  have HS1 := hid (show w1.heap.size = w.heap.size + 3 by rw [hw1]; simp)
  have HP1 := hid (show w1.rowIs (w.heap.size + 1) 48 1 (fun _ => .slice none 0 0) by
    rw [hw1]
    exact (slot_row _ _ _ (by simp)).alloc _)
  have HP2 := hid (show w1.rowIs (w.heap.size + 2) 48 1 (fun _ => .slice none 0 0) by rw [hw1]; exact slot_row _ _ _ (by simp))
  have HR := hid (h.below hB1)
  have HW1 := hid hw1
  clear hw1 hB1 h
  go_enter Try.func46, Try.ntmps46
  go_wp2_with (first
    | (go_at_call 105; (rw [← HW1.out]); (refine (toIntSS_apart _ L _ HR.out hl hl2).mono ?_); (rintro e w3 ⟨rfl, hs3, hu3, hb3⟩); (have HL3 := hid hs3.2); (have HU3 := hid hu3); (have HB3 := hid hb3); (have HSZ := hid (Nat.le_trans (Nat.le_of_eq HS1.out.symm) hb3.size));
        (have hr1 := HP1.out.of_block (HB3.out.block (w.heap.size + 1) (by have := HS1.out; omega))); (have hr2 := HP2.out.of_block (HB3.out.block (w.heap.size + 2) (by have := HS1.out; omega))); (have HR1 := hid hr1); (have HR2 := hid hr2); (rw [HS1.out]);
        (have hc1 : w3.cell? ⟨w.heap.size + 1, 0, none⟩ = some (.slice none 0 0) := hr1.cell (i := 0) (by omega)); (have hc2 : w3.cell? ⟨w.heap.size + 2, 0, none⟩ = some (.slice none 0 0) := hr2.cell (i := 0) (by omega)); (have hf1 := hr1.frozen 0); (have hf2 := hr2.frozen 0); (clear hs3 hu3 hb3 hr1 hr2))
    | fail)
  obtain ⟨V, hV⟩ : ∃ V, V = Value.slice (some ⟨w.heap.size + 3, 0, none⟩) L.length L.length := ⟨_, rfl⟩
  have hsz := HSZ.out
  have e2 : w.heap.size + 1 + 1 = w.heap.size + 2 := rfl
  rw [e2]
  have hr1 : (w3.setCell ⟨w.heap.size + 2, 0, none⟩ V).rowIs (w.heap.size + 1) 48 1 (fun _ => .slice none 0 0) := HR1.out.of_block (Below.heap_setCell _ _ _ _ (by simp))
  have hs1 := row_same9 hr1 (i := 0) (by omega) V
  rw [← hV]
  refine bodyPost_ret (v := .agg #[V]) (by simp [results, Try.results46, hs1, go_sem]; try rfl) rfl ?_
  rw [hV] at hr1 ⊢
  refine ⟨w.heap.size + 3, rfl, by omega, ?_, ?_, ?_⟩
  · have hl3 : SitsL (w3.setCell ⟨w.heap.size + 2, 0, none⟩ (.slice (some ⟨w.heap.size + 3, 0, none⟩) L.length L.length)) (.slice (some ⟨w.heap.size + 3, 0, none⟩) L.length L.length) L := by
      have := HL3.out
      rw [HS1.out] at this
      exact this.stay9 (slot_cells HR2.out) (fun b off hb => World.cell?_setCell_far _ _ _ _ (fun e => hb e.symm)) (by simp)
    refine hl3.stay9 (slot_cells hr1) (fun b off hb => ?_) (by simp)
    exact World.cell?_setCell_far _ _ _ _ (fun e => hb e.symm)
  · have hu := HU3.out
    rw [HS1.out] at hu
    have := hu.stay9 (w' := (w3.setCell ⟨w.heap.size + 2, 0, none⟩ (.slice (some ⟨w.heap.size + 3, 0, none⟩) L.length L.length)).setCell ⟨w.heap.size + 1, 0, none⟩ (.slice (some ⟨w.heap.size + 3, 0, none⟩) L.length L.length)) (fun k h1 h2 => by
      rw [Below.heap_setCell _ _ _ _ (by simp; omega), Below.heap_setCell _ _ _ _ (by simp; omega)])
    simpa using this
  · exact ((HB1.out.trans (HB3.out.mono (by have := HS1.out; omega))).setCell (p := ⟨w.heap.size + 2, 0, none⟩) (by show w.heap.size ≤ w.heap.size + 2; omega) _).setCell (p := ⟨w.heap.size + 1, 0, none⟩) (Nat.le_succ _) _
theorem eqTorus_any (v u : Value) (L : List (List Int)) (B1 B2 : Nat) (w : World) (h : Lists w B1 v L) (h' : Lists w B2 u L) :
    Calls Try.prog 48 #[.agg #[v], .agg #[u]] w fun e w' => e = .returned (.bool true) ∧ Below w.heap.size w w' := by
  have h1 := h.slice9
  have h2 := h'.slice9
  obtain ⟨a, c, rfl⟩ := h1
  obtain ⟨a', c', rfl⟩ := h2
  obtain ⟨w1, hw1⟩ : ∃ w1, w1 = (w.alloc (.cells #[.slice a L.length c] 48)).alloc (.cells #[.slice a' L.length c'] 48) := ⟨_, rfl⟩
  have hB1 : Below w.heap.size w w1 := by rw [hw1]; exact ((Below.refl _ _).alloc (Nat.le_refl _) _).alloc (sz_al9 (Nat.le_refl _) _) _
  have HB1 := hid hB1
  have HL := hid (h.below hB1)
  have HL' := hid (h'.below hB1)
  have HW1 := hid hw1
  clear hw1 hB1 h h'
  go_enter Try.func48, Try.ntmps48
  go_wp2_with (first
    | (go_at_call 28; (rw [← HW1.out]); (refine (eqIntSS_any _ _ L _ _ _ HL.out HL'.out).mono ?_); (rintro e w3 ⟨rfl, hb3⟩); (have HB3 := hid (Below_chain HB1.out hb3)); (clear hb3))
    | fail)
  go_ret
  exact ⟨rfl, HB3.out⟩
theorem markTorus_kept (v : Value) (L : List (List Int)) (base H : Nat) (m : Int) (w : World) (h : ListsU w base H v L) (hB : base ≤ w.heap.size) (h0 : 0 ≤ m) (h1 : m ≤ 1073741824) (hl : preLen L L.length ≤ 1073741824) :
    Calls Try.prog 51 #[.agg #[v], .int .i64 m] w fun e w' => e = .returned (.int .i64 (m + preLen L L.length)) ∧ Below base w w' ∧ w.heap.size ≤ w'.heap.size ∧ ∀ k, H ≤ k → k < w.heap.size → w'.heap[k]? = w.heap[k]? := by
  have hsh := h.listsA.lists.slice9
  obtain ⟨a, c, rfl⟩ := hsh
  obtain ⟨w1, hw1⟩ : ∃ w1, w1 = w.alloc (.cells #[.slice a L.length c] 48) := ⟨_, rfl⟩
  have hB1 : Below w.heap.size w w1 := by rw [hw1]; exact (Below.refl _ _).alloc (Nat.le_refl _) _
  have HB1 := hid hB1
  have HS1 := hid (show w1.heap.size = w.heap.size + 1 by rw [hw1]; simp)
  have HL := hid (h.below hB1)
  have HW1 := hid hw1
  clear hw1 hB1 h
  go_enter Try.func51, Try.ntmps51
  go_wp2_with (first
    | (go_at_call 29; (rw [← HW1.out]); (refine (markIntSS_kept _ L base H m _ HL.out h0 h1 hl).mono ?_); (rintro e w3 ⟨rfl, hb3, hs3, hk3⟩); (have HB3 := hid hb3); (have HS3 := hid hs3); (have HK3 := hid hk3); (clear hb3 hs3 hk3))
    | fail)
  go_ret
  have hs1 := HS1.out
  refine ⟨rfl, (HB1.out.mono hB).trans HB3.out, Nat.le_trans (by omega) HS3.out, fun k h1 h2 => ?_⟩
  rw [HK3.out k h1 (by omega), HB1.out.block k h2]
theorem markTorus_any (v : Value) (L : List (List Int)) (base : Nat) (m : Int) (w : World) (h : ListsA w base v L) (hB : base ≤ w.heap.size) (h0 : 0 ≤ m) (h1 : m ≤ 1073741824) (hl : preLen L L.length ≤ 1073741824) :
    Calls Try.prog 51 #[.agg #[v], .int .i64 m] w fun e w' => e = .returned (.int .i64 (m + preLen L L.length)) ∧ ∃ M : List (List Int), ListsA w' base v M ∧ Marked m M ∧ preLen M M.length = preLen L L.length ∧ Below base w w' ∧ w.heap.size ≤ w'.heap.size := by
  have hsh := h.lists.slice9
  obtain ⟨a, c, rfl⟩ := hsh
  obtain ⟨w1, hw1⟩ : ∃ w1, w1 = w.alloc (.cells #[.slice a L.length c] 48) := ⟨_, rfl⟩
  have hB1 : Below w.heap.size w w1 := by rw [hw1]; exact (Below.refl _ _).alloc (Nat.le_refl _) _
  have HB1 := hid hB1
  have HS1 := hid (show w1.heap.size = w.heap.size + 1 by rw [hw1]; simp)
  have HL := hid (h.below hB1)
  have HW1 := hid hw1
  clear hw1 hB1 h
  go_enter Try.func51, Try.ntmps51
  go_wp2_with fail
  rw [← HW1.out]
  refine (markIntSS_any _ L base m _ HL.out h0 h1 hl).mono ?_
  rintro e w3 ⟨rfl, M, hM, hMl, hMe, hb3, hs3⟩
  have hk := marked_of hMl hMe
  have HM := hid hM
  have HK := hid hk
  have HB3 := hid hb3
  have HS3 := hid hs3
  clear hM hMl hMe hb3 hs3 hk
  go_wp2_with fail
  go_ret
  have hs1 := HS1.out
  exact ⟨rfl, M, HM.out, HK.out.1, HK.out.2, (HB1.out.mono hB).trans HB3.out, Nat.le_trans (by omega) HS3.out⟩
theorem cell_belowT {w w' : World} {p : Addr} {x : Value} (h : w.cell? p = some x) (hb : Below w.heap.size w w') : w'.cell? p = some x :=
  (hb.cell (World.block_lt_of_cell? w p h)).trans h
theorem cell_of_block {w w' : World} {k : Nat} (h : w'.heap[k]? = w.heap[k]?) (i : Nat) : w'.cell? ⟨k, i, none⟩ = w.cell? ⟨k, i, none⟩ := by
  unfold World.cell?
  simp only [h]
theorem Below_chain' {n : Nat} {w1 w2 w3 : World} (h : Below w1.heap.size w1 w2) (hb : Below n w2 w3) (hn : w1.heap.size ≤ n) : Below w1.heap.size w1 w3 := h.trans (hb.mono hn)
theorem heldTorus_any (v : Value) (L : List (List Int)) (m : Int) (w : World) (h : ReadsL w v L) (hx : Marked m L) (h0 : 0 ≤ m) (h1 : m ≤ 1073741824) (hl : preLen L L.length ≤ 1073741824) :
    Calls Try.prog 52 #[.agg #[v], .int .i64 m] w fun e w' => e = .returned (.int .i64 (m + preLen L L.length)) ∧ Below w.heap.size w w' := by
  have hs := h
  obtain ⟨a, c, rfl, _⟩ := hs
  have HB1 := hid (show Below w.heap.size w (w.alloc (.cells #[.slice a L.length c] 48)) from (Below.refl _ _).alloc (Nat.le_refl _) _)
  have HR := hid (h.below HB1.out)
  clear h
  have HX := hid hx
  clear hx
  have hq' : ¬ (m + (preLen L L.length : Int)) < 0 := by omega
  go_enter Try.func52, Try.ntmps52
  go_wp2_with fail
  refine (heldIntSS_R _ L m _ HR.out HX.out h0 h1 hl).mono ?_
  rintro e w2 ⟨rfl, rfl⟩
  go_wp2_with fail
  go_ret
  exact ⟨rfl, HB1.out⟩
end Go.Proofs.Yteimfdpkodcfbaa
