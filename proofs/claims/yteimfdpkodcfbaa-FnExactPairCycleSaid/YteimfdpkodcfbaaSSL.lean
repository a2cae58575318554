/- Contract: toIntSS; slices of slices that are not nil and whose rows are not. Conditions: the slice reads as a list of at most 2^20 lists of at most 2^20 numbers. -/
import Derived.Test.YteimfdpkodcfbaaRowsL
import Derived.Test.YteimfdpkodcfbaaBs1
import Derived.Test.YteimfdpkodcfbaaBs2
namespace Go.Proofs.Yteimfdpkodcfbaa
open Go.RowKit
set_option linter.unusedVariables false
set_option maxRecDepth 4000

/-- v is a slice that is not nil of slices that are not nil, and reads as L. -/
def SitsL (w : World) (v : Value) (L : List (List Int)) : Prop :=
  ∃ b off c, v = .slice (some ⟨b, off, none⟩) L.length c ∧ L.length ≤ c ∧ c ≤ 9223372036854775807 ∧ b < w.heap.size ∧ ∀ i (hi : i < L.length), ∃ u, w.cell? ⟨b, off + i, none⟩ = some u ∧ Sits w u L[i]
theorem SitsL.below {w w' : World} {v : Value} {L : List (List Int)} (h : SitsL w v L) (hb : Below w.heap.size w w') : SitsL w' v L := by
  obtain ⟨b, off, c, rfl, h1, h2, h3, h4⟩ := h
  refine ⟨b, off, c, rfl, h1, h2, Nat.lt_of_lt_of_le h3 hb.size, fun i hi => ?_⟩
  obtain ⟨u, hu, hs⟩ := h4 i hi
  exact ⟨u, (hb.cell (by exact h3)).trans hu, hs.below hb⟩
/-- A made row is an owned one. -/
theorem ownsRow_of_rowIs {w : World} {g n : Nat} {T : TypeId} {f : Nat → Value} (h : w.rowIs g T n f) (hm : n ≤ maxLen) : w.ownsRow g T 1 (.slice (some ⟨g, 0, none⟩) n n) n ((List.range n).map f) := by
  obtain ⟨c, hc, hs, hf⟩ := h
  refine ⟨by simp, .inr ⟨g, n, c, rfl, Nat.le_refl _, hc, by omega, hm, by omega, ?_⟩⟩
  apply List.ext_getElem?
  intro i
  by_cases hi : i < n
  · have := hf i hi
    simp [hi] at this ⊢
    exact this
  · rw [List.getElem?_eq_none (by simp; omega), List.getElem?_eq_none (by simp; omega)]
theorem rowIs_below {w w' : World} {B g n : Nat} {T : TypeId} {f : Nat → Value} (h : w.rowIs g T n f) (hb : Below B w w') (hg : g < B) : w'.rowIs g T n f := h.of_block (hb.block g hg)
theorem grownBy_setCellAt (W : World) (b k : Nat) (v : Value) : W.grownBy (W.setCell ⟨b, k, none⟩ v) (some b) :=
  ⟨rfl, rfl, rfl, by simp, fun i _ hne => Below.heap_setCell _ _ _ i (fun e => hne (by rw [e]))⟩
/-- the first k rows are copied, into blocks behind g -/
def Copied (w : World) (g : Nat) (U : Nat → Value) (L : List (List Int)) (k : Nat) : Prop :=
  ∀ i (hi : i < L.length), i < k → ∃ h, U i = .slice (some ⟨h, 0, none⟩) L[i].length L[i].length ∧ g < h ∧ Own w g (U i) L[i]
theorem Copied.below {w w' : World} {g k : Nat} {U : Nat → Value} {L : List (List Int)} (h : Copied w g U L k) (hb : Below w.heap.size w w') : Copied w' g U L k := by
  intro i hi hk
  obtain ⟨q, h1, h2, h3⟩ := h i hi hk
  exact ⟨q, h1, h2, h3.below hb⟩
theorem Copied.kept {w w' : World} {g k : Nat} {U : Nat → Value} {L : List (List Int)} (h : Copied w g U L k) (hb : w.grownBy w' (some g)) : Copied w' g U L k := by
  intro i hi hk
  obtain ⟨q, h1, h2, h3⟩ := h i hi hk
  refine ⟨q, h1, h2, h3.kept hb (.inr ?_)⟩
  rw [h1]
  simp only [Value.ownBlock, ne_eq, Option.some.injEq]
  omega
theorem Copied.step {w : World} {g k q : Nat} {U : Nat → Value} {L : List (List Int)} (h : Copied w g U L k) (hk : k < L.length) (hq : g < q) (ho : Own w g (.slice (some ⟨q, 0, none⟩) L[k].length L[k].length) L[k]) :
    Copied w g (fun j => if j = k then .slice (some ⟨q, 0, none⟩) L[k].length L[k].length else U j) L (k + 1) := by
  intro i hi hk1
  by_cases e : i = k
  · subst e
    exact ⟨q, by simp, hq, by simpa using ho⟩
  · obtain ⟨q', h1, h2, h3⟩ := h i hi (by omega)
    exact ⟨q', by simp [e, h1], h2, by simpa [e] using h3⟩
/-- what toIntSS hands back -/
def Rows2 (w : World) (g : Nat) (v : Value) (L : List (List Int)) : Prop := Lists w g v L ∧ SitsL w v L
theorem Rows2.below {w w' : World} {g : Nat} {v : Value} {L : List (List Int)} (h : Rows2 w g v L) (hb : Below w.heap.size w w') : Rows2 w' g v L := ⟨h.1.below hb, h.2.below hb⟩
theorem Rows2.of {w : World} {g : Nat} {U : Nat → Value} {L : List (List Int)} (h : Copied w g U L L.length) (hr : w.rowIs g 22 L.length U) (hm : L.length ≤ 1048576) : Rows2 w g (.slice (some ⟨g, 0, none⟩) L.length L.length) L := by
  refine ⟨⟨(List.range L.length).map U, by simp, ownsRow_of_rowIs hr (by unfold maxLen; omega), fun i h1 h2 => ?_⟩, g, 0, L.length, rfl, Nat.le_refl _, by omega, hr.lt, fun i hi => ?_⟩
  · obtain ⟨q, _, _, h3⟩ := h i h1 h1
    simpa using h3
  · obtain ⟨q, h1, _, h3⟩ := h i hi hi
    refine ⟨U i, by rw [Nat.zero_add]; exact hr.cell hi, ?_⟩
    rw [h1] at h3 ⊢
    exact h3.sits
theorem run_make_intss (n : Nat) (hn : n ≤ 1048576) (w : World) : Sem.run Try.prog (Instr.makeSlice 28 (.int .i64 n) (.int .i64 n)) w = .ok (.slice (some ⟨w.heap.size, 0, none⟩) n n) (w.alloc (.cells (madeCells #[.slice none 0 0] n) 22)) :=
  run_make_row' 28 22 (.slice none 0 0) 24 Try.underlying28 Try.infoL rfl .i64 .i64 n (by omega) (by omega) w
theorem toIntSS_any (v : Value) (L : List (List Int)) (w : World) (h : ReadsL w v L) (hl : L.length ≤ 1048576) (hl2 : ∀ i (hi : i < L.length), L[i].length ≤ 1048576) :
    Calls Try.prog 105 #[v] w fun e w' => e = .returned (.slice (some ⟨w.heap.size, 0, none⟩) L.length L.length) ∧ Rows2 w' w.heap.size (.slice (some ⟨w.heap.size, 0, none⟩) L.length L.length) L ∧ Below w.heap.size w w' := by
  obtain ⟨ao, c, rfl, hc1, hm, h⟩ := h
  unfold maxLen at hm
  have hmk := run_make_intss L.length hl w
  have hr0 := World.rowIs_made w (.slice none 0 0) L.length 22
  have hB0 : Below w.heap.size w (w.alloc (.cells (madeCells #[.slice none 0 0] L.length) 22)) := (Below.refl _ _).alloc (Nat.le_refl _) _
  have hS0 : w.heap.size < (w.alloc (.cells (madeCells #[.slice none 0 0] L.length) 22)).heap.size := by simp
  obtain ⟨wm, hwm⟩ : ∃ wm, wm = w.alloc (.cells (madeCells #[.slice none 0 0] L.length) 22) := ⟨_, rfl⟩
  rw [← hwm] at hmk hr0 hB0 hS0
  clear hwm
  have HL2 := hid hl2
  have HR0 := hid hr0
  have HB0 := hid hB0
  clear hl2 hr0 hB0
  rcases h with h | ⟨b, off, rfl, hb, hc⟩
  · have H := hid h
    clear h
    go_enter Try.func105, Try.ntmps105
    go_wp2_with fail
    go_loopw [4] (fun i wr => i = .int .i64 0 ∧ wr = wm) (fun i _ => L.length - (intOf i).toNat)
    case atStart => exact ⟨rfl, rfl⟩
    case round =>
      obtain ⟨rfl, rfl⟩ := hrel
      have hlt : ¬ (0 : Int) < (L.length : Int) := by rw [H.out]; simp
      go_wp2_with fail
      go_ret
      exact ⟨rfl, Rows2.of (U := fun _ => .slice none 0 0) (fun i hi => absurd hi (by rw [H.out]; simp)) HR0.out hl, HB0.out⟩
  · have HC := hid hc
    clear hc
    go_enter Try.func105, Try.ntmps105
    go_wp2_with fail
    go_loopw [4] (fun i wr => ∃ k : Nat, k ≤ L.length ∧ i = .int .i64 k ∧ (∃ U : Nat → Value, wr.rowIs w.heap.size 22 L.length U ∧ Copied wr w.heap.size U L k) ∧ Below w.heap.size w wr ∧ w.heap.size < wr.heap.size) (fun i _ => L.length - (intOf i).toNat)
    case atStart => exact ⟨0, Nat.zero_le _, rfl, ⟨_, HR0.out, fun i hi hk => absurd hk (by omega)⟩, HB0.out, hS0⟩
    case round =>
      obtain ⟨k, hk, rfl, ⟨U, hrow, hcop⟩, hbel, hsz⟩ := hrel
      by_cases hlt : k < L.length
      · obtain ⟨z, hz, hread⟩ := HC.out k hlt
        have hcx : wr.cell? ⟨b, off + k, none⟩ = some z := (hbel.cell (by exact hb)).trans hz
        have HRD := hid (hread.below hbel)
        obtain ⟨l, hll⟩ : ∃ l, l = L[k] := ⟨_, rfl⟩
        have hl2 := HL2.out k hlt
        rw [← hll] at HRD hl2
        have HLL := hid hll
        have HROW := hid hrow
        have HCOP := hid hcop
        have HB := hid hbel
        clear hread hz hrow hcop hbel hll
        go_wp2_with (first | (go_at_call 32; refine (toIntS_any _ l _ HRD.out hl2).mono ?_; rintro e w1 ⟨rfl, hown, hb1⟩; have HO := hid hown; have HB1 := hid hb1; clear hown hb1; have HR1 := hid (rowIs_below HROW.out HB1.out hsz); obtain ⟨zz, hcz⟩ : ∃ zz, w1.cell? ⟨w.heap.size, k, none⟩ = some zz := ⟨_, HR1.out.cell hlt⟩; have hfz := HR1.out.frozen k) | fail)
        have HG := hid (grownBy_setCellAt w1 w.heap.size k (.slice (some ⟨wr.heap.size, 0, none⟩) l.length l.length))
        have HR2 := hid (HR1.out.set k (.slice (some ⟨wr.heap.size, 0, none⟩) l.length l.length))
        have HC2 := hid (((HCOP.out.below HB1.out).kept HG.out).step (q := wr.heap.size) hlt hsz (by
          rw [← HLL.out]
          exact (HO.out.mono (by omega)).kept HG.out (.inr (by simp only [Value.ownBlock, ne_eq, Option.some.injEq]; omega))))
        have HBB := hid ((HB.out.trans (HB1.out.mono (by omega))).setCell (p := ⟨w.heap.size, k, none⟩) (Nat.le_refl _) (.slice (some ⟨wr.heap.size, 0, none⟩) l.length l.length))
        have hs1 := HB1.out.size
        go_roundw
        case rel => exact ⟨k + 1, by omega, by go_num, ⟨_, HR2.out, by rw [← HLL.out] at HC2; exact HC2.out⟩, HBB.out, by simp; omega⟩
        case measure => simp [intOf]; omega
      · obtain rfl : k = L.length := by omega
        have HROW := hid hrow
        have HCOP := hid hcop
        have HB := hid hbel
        clear hrow hcop hbel
        go_wp2_with fail
        go_ret
        exact ⟨rfl, Rows2.of HCOP.out HROW.out hl, HB.out⟩
end Go.Proofs.Yteimfdpkodcfbaa
