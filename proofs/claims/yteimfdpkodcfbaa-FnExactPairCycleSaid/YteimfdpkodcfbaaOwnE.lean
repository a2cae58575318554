/- Slices that own their row but may end before it (what a slice with three indexes leaves): as Own, Lives; markIntS at them. No conditions. -/
import Derived.Test.YteimfdpkodcfbaaBs1
namespace Go.Proofs.Yteimfdpkodcfbaa
open Go.RowKit
set_option linter.unusedVariables false

/-- v is a slice of ints that reads as xs: nil and empty, or the head of an unfrozen row from block base on. -/
def OwnE (w : World) (base : Nat) (v : Value) (xs : List Int) : Prop :=
  (v = .slice none 0 0 ∧ xs = []) ∨ ∃ g cap cur, v = .slice (some ⟨g, 0, none⟩) xs.length cap ∧ base ≤ g ∧ w.heap[g]? = some (.cells cur 3 (0, 0)) ∧ xs.length ≤ cap ∧ cap ≤ maxLen ∧ cap ≤ cur.size ∧ cur.toList.take xs.length = xs.map (Value.int .i64)
theorem Own.e {w : World} {base : Nat} {v : Value} {xs : List Int} (h : Own w base v xs) : OwnE w base v xs := by
  obtain ⟨h1, h2⟩ := h
  rcases h2 with ⟨rfl, hn⟩ | ⟨g, cap, cur, rfl, hg, hgg, h3, h4, h5, h6⟩
  · exact .inl ⟨rfl, List.eq_nil_of_length_eq_zero hn⟩
  · exact .inr ⟨g, cap, cur, rfl, hg, hgg, h3, h4, by omega, by rwa [Nat.mul_one] at h6⟩
theorem OwnE.form {w : World} {base : Nat} {v : Value} {xs : List Int} (h : OwnE w base v xs) :
    (v = .slice none 0 0 ∧ xs = []) ∨ ∃ g cap, v = .slice (some ⟨g, 0, none⟩) xs.length cap ∧ base ≤ g ∧ g < w.heap.size ∧ xs.length ≤ cap ∧ cap ≤ maxLen ∧
      (∀ i, i < xs.length → w.cell? ⟨g, 0 + i, none⟩ = some (.int .i64 (xs.getD i 0))) ∧ (∀ i, w.frozen? ⟨g, i, none⟩ = false) := by
  rcases h with h | ⟨g, cap, cur, rfl, hg, hgg, h1, h2, h3, h4⟩
  · exact .inl h
  · refine .inr ⟨g, cap, rfl, hg, (Array.getElem?_eq_some_iff.1 hgg).1, h1, h2, fun i hi => ?_, fun i => ?_⟩
    · have e : (cur.toList.take xs.length)[i]? = some (.int .i64 (xs.getD i 0)) := by
        rw [h4]; simp [List.getElem?_map, List.getElem?_eq_getElem hi, List.getD_eq_getElem?_getD]
      rw [List.getElem?_take_of_lt hi] at e
      unfold World.cell?
      simp [hgg]
      simpa using e
    · unfold World.frozen?
      simp [hgg]
theorem OwnE.reads {w : World} {base : Nat} {v : Value} {xs : List Int} (h : OwnE w base v xs) : Reads w v xs := by
  rcases h.form with ⟨rfl, rfl⟩ | ⟨g, cap, rfl, _, hlt, h1, h2, hc, _⟩
  · exact ⟨none, 0, rfl, Nat.le_refl _, by unfold maxLen; omega, .inl rfl⟩
  · exact ⟨_, cap, rfl, h1, h2, .inr ⟨g, 0, rfl, hlt, hc⟩⟩
theorem OwnE.low {w : World} {base : Nat} {v : Value} {xs : List Int} (h : OwnE w base v xs) (k : Nat) (hk : v.ownBlock = some k) : base ≤ k ∧ k < w.heap.size := by
  rcases h with ⟨rfl, _⟩ | ⟨g, cap, cur, rfl, hg, hgg, _⟩
  · simp [Value.ownBlock] at hk
  · have : g = k := by simpa [Value.ownBlock] using hk
    subst this
    exact ⟨hg, (Array.getElem?_eq_some_iff.1 hgg).1⟩
theorem OwnE.of_block {w w' : World} {base : Nat} {v : Value} {xs : List Int} (h : OwnE w base v xs) (hb : ∀ k, v.ownBlock = some k → w'.heap[k]? = w.heap[k]?) : OwnE w' base v xs := by
  rcases h with h | ⟨g, cap, cur, rfl, hg, hgg, rest⟩
  · exact .inl h
  · exact .inr ⟨g, cap, cur, rfl, hg, (hb g rfl).trans hgg, rest⟩
theorem OwnE.below {w w' : World} {base : Nat} {v : Value} {xs : List Int} (h : OwnE w base v xs) (hb : Below w.heap.size w w') : OwnE w' base v xs :=
  h.of_block fun k hk => hb.block k (h.low k hk).2
theorem OwnE.mono {w : World} {base base' : Nat} {v : Value} {xs : List Int} (h : OwnE w base v xs) (hb : base' ≤ base) : OwnE w base' v xs := by
  rcases h with h | ⟨g, cap, cur, rfl, hg, rest⟩
  · exact .inl h
  · exact .inr ⟨g, cap, cur, rfl, Nat.le_trans hb hg, rest⟩
theorem OwnE.kept {w w' : World} {base : Nat} {v : Value} {xs : List Int} {row : Option Nat} (h : OwnE w base v xs) (hg : w.grownBy w' row) (hne : v.ownBlock = none ∨ v.ownBlock ≠ row) : OwnE w' base v xs :=
  h.of_block fun k hk => hg.block k (h.low k hk).2 (by rw [← hk]; rcases hne with hn | hn; · rw [hn] at hk; simp at hk
                                                       · exact hn)
theorem OwnE.set {w : World} {base g cap : Nat} {xs : List Int} (h : OwnE w base (.slice (some ⟨g, 0, none⟩) xs.length cap) xs) (j : Nat) (u : Int) :
    OwnE (w.setCell ⟨g, j, none⟩ (.int .i64 u)) base (.slice (some ⟨g, 0, none⟩) xs.length cap) (xs.set j u) ∧ w.grownBy (w.setCell ⟨g, j, none⟩ (.int .i64 u)) (some g) := by
  refine ⟨?_, ⟨rfl, rfl, rfl, by simp, fun i _ hne => Below.heap_setCell _ _ _ i (fun e => hne (by rw [e]))⟩⟩
  rcases h with ⟨h, _⟩ | ⟨g', cap', cur, e, hg, hgg, h1, h2, h3, h4⟩
  · simp at h
  · simp only [Value.slice.injEq, Option.some.injEq, Addr.mk.injEq, and_true] at e
    obtain ⟨rfl, _, rfl⟩ := e
    refine .inr ⟨g, cap, cur.setIfInBounds j (.int .i64 u), by simp, hg, ?_, by simpa using h1, h2, by simpa using h3, ?_⟩
    · unfold World.setCell
      simp [Array.getElem?_modify, hgg]
    · rw [List.length_set, List.map_set, ← h4]
      simp [List.take_set]
def LivesE (w : World) (lo hi : Nat) (v : Value) (xs : List Int) : Prop := OwnE w lo v xs ∧ ∀ k, v.ownBlock = some k → k < hi
theorem OwnE.livesE {w : World} {lo : Nat} {v : Value} {xs : List Int} (h : OwnE w lo v xs) : LivesE w lo w.heap.size v xs := ⟨h, fun k hk => (h.low k hk).2⟩
theorem Own.livesE {w : World} {lo : Nat} {v : Value} {xs : List Int} (h : Own w lo v xs) : LivesE w lo w.heap.size v xs := h.e.livesE
theorem LivesE.below {w w' : World} {lo hi : Nat} {v : Value} {xs : List Int} (h : LivesE w lo hi v xs) (hb : Below w.heap.size w w') : LivesE w' lo hi v xs := ⟨h.1.below hb, h.2⟩
theorem LivesE.reads {w : World} {lo hi : Nat} {v : Value} {xs : List Int} (h : LivesE w lo hi v xs) : Reads w v xs := h.1.reads
theorem LivesE.low {w : World} {lo hi : Nat} {v : Value} {xs : List Int} (h : LivesE w lo hi v xs) : ∀ k, v.ownBlock = some k → lo ≤ k := fun k hk => (h.1.low k hk).1
theorem LivesE.sits {w : World} {lo hi g n c : Nat} {xs : List Int} (h : LivesE w lo hi (.slice (some ⟨g, 0, none⟩) n c) xs) : Sits w (.slice (some ⟨g, 0, none⟩) n c) xs := by
  rcases h.1.form with ⟨e, _⟩ | ⟨g', cap, e, _, hlt, h1, h2, hc, _⟩
  · simp at e
  · simp only [Value.slice.injEq, Option.some.injEq, Addr.mk.injEq, and_true] at e
    obtain ⟨rfl, rfl, rfl⟩ := e
    refine ⟨g, 0, c, rfl, h1, by unfold maxLen at h2; omega, hlt, fun i hi => ?_⟩
    rw [hc i hi, getD_at hi]
theorem LivesE.kept {w w' : World} {lo hi lo' hi' : Nat} {v u : Value} {xs ys : List Int} (h : LivesE w lo hi v xs) (h' : LivesE w lo' hi' u ys) (hg : w.grownBy w' u.ownBlock) (hne : hi ≤ lo' ∨ hi' ≤ lo) : LivesE w' lo hi v xs := by
  refine ⟨OwnE.kept h.1 hg ?_, h.2⟩
  cases hv : v.ownBlock with
  | none => exact .inl rfl
  | some k =>
    right
    intro e
    have h1 := h.2 k hv
    have h2 := h.low k hv
    have h3 := h'.2 k e.symm
    have h4 := h'.low k e.symm
    omega
theorem LivesE.marked {w w' : World} {lo hi : Nat} {v : Value} {xs ys : List Int} (h : LivesE w lo hi v xs) (ho : OwnE w' lo v ys) : LivesE w' lo hi v ys := ⟨ho, h.2⟩
theorem Below.markedE {w w1 w' : World} {lo hi : Nat} {v : Value} {xs : List Int} (h : Below w.heap.size w w1) (hl : LivesE w1 lo hi v xs) (hg : w1.grownBy w' v.ownBlock) (hlo : w.heap.size ≤ lo) : Below w.heap.size w w' :=
  h.grown hg h.size (fun k hk => Nat.le_trans hlo (hl.low k hk))
theorem markIntS_E (v : Value) (xs : List Int) (base : Nat) (m : Int) (w : World) (h : OwnE w base v xs) (h0 : 0 ≤ m) (h1 : m ≤ 1099511627776) (hl : xs.length ≤ 1099511627776) :
    Calls Try.prog 20 #[v, .int .i64 m] w fun e w' => e = .returned (.int .i64 (m + xs.length)) ∧ OwnE w' base v (marks m xs.length) ∧ w.grownBy w' v.ownBlock := by
  rcases h.form with ⟨rfl, rfl⟩ | ⟨g, cap, rfl, hg, hlt, hc1, hm, hc, hf⟩
  · go_enter Try.func20, Try.ntmps20
    go_wp2
    refine wp_loop_rounds 1 ?_
    rw [rounds_succ]
    go_wp2
    go_ret
    exact ⟨ret_int (by simp), h, World.grownBy.refl _ _⟩
  · unfold maxLen at hm
    have H := hid h
    clear h hc hf
    go_enter Try.func20, Try.ntmps20
    go_wp2
    go_loopw [1, 5] (fun a i wr => ∃ k : Nat, k ≤ xs.length ∧ i = .int .i64 k ∧ a = .int .i64 (m + k) ∧ OwnE wr base (.slice (some ⟨g, 0, none⟩) xs.length cap) (marks m k ++ xs.drop k) ∧ w.grownBy wr (some g)) (fun _ i _ => xs.length - (intOf i).toNat)
    case atStart => exact ⟨0, Nat.zero_le _, rfl, by simp, by simpa [marks] using H.out, World.grownBy.refl _ _⟩
    case round =>
      obtain ⟨k, hk, rfl, rfl, hown, hgr⟩ := hrel
      have hlen : (marks m k ++ xs.drop k).length = xs.length := by simp [marks_length]; omega
      by_cases hlt : k < xs.length
      · have hs := OwnE.set (by rw [hlen]; exact hown) k (m + k)
        rw [hlen, marks_set m xs k hlt] at hs
        rcases hown.form with ⟨h1, h2⟩ | ⟨g', cap', e, hg', hlt', hc1', hm', hc', hf'⟩
        · simp at h1
        · simp only [Value.slice.injEq, Option.some.injEq, Addr.mk.injEq, and_true] at e
          obtain ⟨rfl, el, rfl⟩ := e
          clear el
          have hcx := hc' k (by omega)
          have hfx := hf' k
          rw [Nat.zero_add] at hcx
          obtain ⟨z, hz⟩ : ∃ z, wr.cell? ⟨g, k, none⟩ = some z := ⟨_, hcx⟩
          clear hcx
          have HS := hid hs
          have HG := hid hgr
          clear hs hgr hc' hf' hown hlen hm' hc1'
          go_wp2
          go_roundw
          case rel => exact ⟨k + 1, by omega, by go_num, by go_num, HS.out.1, grownBy_trans HG.out HS.out.2⟩
          case measure => simp [intOf]; omega
      · obtain rfl : k = xs.length := by omega
        rw [List.drop_length, List.append_nil] at hown
        have HO := hid hown
        have HG := hid hgr
        clear hown hgr hlen
        go_wp2
        go_ret
        exact ⟨rfl, HO.out, HG.out⟩
end Go.Proofs.Yteimfdpkodcfbaa
