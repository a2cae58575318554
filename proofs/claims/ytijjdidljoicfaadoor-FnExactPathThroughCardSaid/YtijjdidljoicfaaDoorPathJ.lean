/- Contract: impl.PathThrough. Conditions: the slice reads as a list of at most 2^20 numbers; the table of math/bits holds what the program's text lays. -/
import Derived.Test.YtijjdidljoicfaaDoorPathI
namespace Go.Proofs.YtijjdidljoicfaaDoor
open Go.RowKit
set_option linter.unusedVariables false

theorem ret_sb9 {u : Value} {b b' : Bool} (h : b = b') : Ending.returned (.tuple #[u, .bool b]) = .returned (.tuple #[u, .bool b']) := by rw [h]
theorem ptRes_no {n : Int} {xs : List Int} (h : ptOk n xs = false) : ptRes n xs = [] := by unfold ptRes; rw [if_neg (by rw [h]; simp)]
theorem ptB_no {n : Int} {xs : List Int} (h : ptOk n xs = false) : ptB n xs = false := by unfold ptB; rw [ptRes_no h]; rfl
theorem ptRes_yes {n : Int} {xs : List Int} (h : ptOk n xs = true) : ptRes n xs = ptL xs := by unfold ptRes; rw [if_pos h]
theorem ptB_yes {n : Int} {xs : List Int} (h : ptOk n xs = true) : ptB n xs = decide (0 < (ptL xs).length) := by unfold ptB; rw [ptRes_yes h]
theorem ptL_len {xs : List Int} (h : diffB xs = true) : (ptL xs).length ≤ xs.length := by
  have := gcp_len (ws := sortW xs) (sortW xs).length [] (good_nil _) (by simp)
  rw [(sort_all h).2.2] at this
  unfold ptL
  rw [(sort_all h).2.2]
  exact this
theorem bound_PathThrough (n : Int) (xs : List Int) : (ptRes n xs).length ≤ 1048576 := by
  cases h : ptOk n xs with
  | false => rw [ptRes_no h]; simp
  | true =>
    rw [ptRes_yes h]
    simp only [ptOk, Bool.and_eq_true, decide_eq_true_eq] at h
    have := ptL_len h.2.2.2
    omega
abbrev nilObj : Obj := .cells #[.slice none 0 0] 22
theorem nil_box (w : World) : (w.alloc nilObj).rowIs w.heap.size 22 1 (fun _ => .slice none 0 0) :=
  World.rowIs_alloc w #[.slice none 0 0] 22 _ (fun i hi => by
    have h : i = 0 := by simp at hi; exact hi
    subst h; rfl)
theorem small_words {xs ys : List Int} (h : small xs) (hp : ys.Perm xs) : ∀ i (hi : i < ys.length), 0 ≤ ys[i] ∧ ys[i] < 1024 := by
  intro i hi
  have hm := hp.mem_iff.1 (List.getElem_mem hi)
  obtain ⟨j, hj, e⟩ := List.mem_iff_getElem.1 hm
  obtain ⟨y, hy, hy2⟩ := h j hj
  rw [getD_at hj, e] at hy
  omega
/-- What lies ready when walk begins. -/
theorem pt_start (w w1 w2 : World) (xs ys : List Int) (ht : TZ w) (hl : ys.length = xs.length) (hxl : xs.length ≤ 12) (hb : Below w.heap.size w w1) (hlt : w.heap.size < w1.heap.size) (hr : RowL w2 w.heap.size ys) (hg : w1.grownBy w2 (some w.heap.size)) :
    PTO w w.heap.size w.heap.size w2.heap.size (w2.heap.size + 1) ∧ PTJ w w.heap.size w.heap.size w2.heap.size (w2.heap.size + 1) ys (w2.alloc nilObj) [] := by
  have h1 : 1 < w.heap.size := World.block_lt_of_cell? w _ (ht 0 (by omega))
  have hs2 := hg.size
  have B2 : Below w.heap.size w w2 := hb.grown hg (Nat.le_of_lt hlt) (fun j hj => by cases hj; exact Nat.le_refl _)
  have BA : Below w2.heap.size w2 (w2.alloc nilObj) := (Below.refl _ _).alloc (Nat.le_refl _) _
  refine ⟨⟨h1, Nat.le_refl _, by omega, Nat.lt_succ_self _, Nat.le_refl _⟩, ⟨(ht.below B2).below BA, ?_, ⟨_, nil_box w2, Own.nil _ _, fun _ => rfl⟩, B2.alloc (by omega) _⟩⟩
  exact ((Own.of_rowIs hr rfl (by unfold maxLen; omega)).sits).below BA
set_option maxHeartbeats 2000000 in
theorem impl_PathThrough_any (n : Int) (v : Value) (xs : List Int) (w : World) (_wn : (Lit.int .i64 n).wf = true) (h : Sits w v xs) (hl : xs.length ≤ 1048576) (_hwf : ∀ x ∈ xs, (Lit.int .i64 x).wf = true) (ht : TZ w) :
    Calls Tryd.prog 7 #[.int .i64 n, v] w fun e w' => ∃ u, e = .returned (.tuple #[u, .bool (ptB n xs)]) ∧ Own w' w.heap.size u (ptRes n xs) ∧ Below w.heap.size w w' := by
  have HS := hid h
  have HT := hid ht
  obtain ⟨b, off, c, rfl, hc1, hm, hb, hc⟩ := h
  clear ht hc
  by_cases h1 : wordsB n xs = true
  · have HSM := hid (wordsB_small h1)
    have HW := hid h1
    by_cases h2 : 1 ≤ xs.length
    · by_cases h3 : xs.length ≤ 12
      · cases h4 : diffB xs with
        | true =>
          have HOK := hid (show ptOk n xs = true by rw [ptOk, h1, decide_eq_true h2, decide_eq_true h3, h4]; rfl)
          have HD := hid h4
          obtain ⟨ys, hys⟩ : ∃ ys, ys = sortW xs := ⟨_, rfl⟩
          have HYL := hid (show ys.length = xs.length by rw [hys]; exact (sort_all h4).2.2)
          have HPL := hid (show ptL xs = gcp ys ys.length [] by rw [hys]; rfl)
          have HYP := hid (show ys.Perm xs by
            rw [hys]
            exact permOf2 (up_nodup (sort_all h4).1) (fun y hy => ((sort_all h4).2.1 y).1 hy) (sort_all h4).2.2)
          have HWS := hid (small_words HSM.out HYP.out)
          have HIS := hid (show ∀ zs : List Int, zs.Perm xs → SortedTo zs zs.length → zs = ys from fun zs hp hz => by
            rw [hys]
            exact sort_is HD.out hp (sorted_pairwise hz))
          have hyl0 : 0 < ys.length := by rw [HYL.out]; omega
          have hyl1 : ys.length ≤ 1024 := by rw [HYL.out]; omega
          obtain ⟨q, hq⟩ : ∃ q, q = gcp ys ys.length [] := ⟨_, rfl⟩
          have HWL := hid (show wlk ys visP ys.length [] [] = (decide (q.length = 0), q) by
            rw [wlk_gcp hyl0 ys.length [] [] (by simp), ← hq]
            by_cases hz : q.length = 0
            · rw [if_pos hz, decide_eq_true hz, List.eq_nil_of_length_eq_zero hz]
            · rw [if_neg hz, decide_eq_false hz])
          have HR := hid (show ptRes n xs = q by rw [ptRes_yes HOK.out, HPL.out, hq])
          have HB := hid (show ptB n xs = !(decide (q.length = 0)) by
            rw [ptB_yes HOK.out, HPL.out, ← hq]
            by_cases hz : q.length = 0
            · rw [decide_eq_true hz, decide_eq_false (by omega)]; rfl
            · rw [decide_eq_false hz, decide_eq_true (by omega)]; rfl)
          obtain ⟨d, hd⟩ : ∃ d, d = decide (q.length = 0) := ⟨_, rfl⟩
          rw [← hd] at HWL HB
          clear h1 h4 hys hq hd _wn _hwf
          go_enter Tryd.func7, Tryd.ntmps7
          go_wp2_with (first
            | (go_at_call 19; refine (areBitWords_any _ _ xs _ HS.out).mono ?_; rintro e w' ⟨rfl, rfl⟩; rw [HW.out])
            | (go_at_call 20; refine (areDifferent_any _ xs _ HS.out HSM.out hl).mono ?_; rintro e w0 ⟨rfl, hb0⟩; rw [HD.out]; have HB0 := hid hb0; have HS0 := hid (HS.out.below hb0); have HT0 := hid (HT.out.below hb0); have hs0 := hb0.size; clear hb0)
            | (go_at_call 21; refine (copyOf_any _ xs _ HS0.out hl).mono ?_; rintro e w1 ⟨rfl, hr1, hb1⟩; have HR1 := hid (show RowL w1 w0.heap.size xs from hr1); have HB1 := hid hb1; have hlt1 := hr1.lt; clear hr1 hb1)
            | (go_at_call 22; refine (Sort_any w0.heap.size xs _ h3 HR1.out).mono ?_; rintro e w2 ⟨rfl, zs, hz1, hz2, hz3, hz4, hz5⟩; have hzy := HIS.out zs hz2 hz3; rw [hzy] at hz4; have HST := hid (pt_start w0 w1 w2 xs ys HT0.out HYL.out h3 HB1.out hlt1 hz4 hz5); clear hz1 hz2 hz3 hz4 hz5 hzy)
            | (go_at_call 23; refine (walk_P xs.length ys HYL.out.symm visP (PTJ w0 w0.heap.size w0.heap.size w2.heap.size (w2.heap.size + 1) ys) (w2.heap.size + 1) w0.heap.size 0 ⟨w2.heap.size, 0, none⟩ HWS.out hyl0 hyl1 (fun s => s = []) (fun _ _ _ _ e => by simp [visP] at e) (fun _ _ _ _ hs hj hg hr => hj.kept HST.out.1 hs hg hr) (fun _ _ hj => ⟨hj.tz, hj.sits⟩) (fun _ _ _ _ p hj ho hp _ hM => visP_any w0 _ _ _ _ ys HST.out.1 _ _ _ _ p hj ho (by omega) (by omega) hM) [] _ rfl HST.out.2 (by simp)).mono ?_; rintro e w4 ⟨rfl, hj4⟩; rw [HWL.out] at hj4 ⊢; obtain ⟨u4, hbx4, ho4, _⟩ := hj4.box; have hc4 := hbx4.cell (i := 0) (by omega); have HO4 := hid ho4; have HB4 := hid hj4.bel; clear hj4 hbx4 ho4)
            | fail)
          go_ret2
          exact ⟨_, ret_sb9 HB.out.symm, by rw [HR.out]; exact HO4.out.mono hs0, Below_chain HB0.out HB4.out⟩
        | false =>
          have HOK := hid (show ptOk n xs = false by rw [ptOk, h4]; simp)
          have HB := hid (ptB_no HOK.out)
          have HR := hid (ptRes_no HOK.out)
          have HD := hid h4
          clear h1 h4 _wn _hwf
          go_enter Tryd.func7, Tryd.ntmps7
          go_wp2_with (first
            | (go_at_call 19; refine (areBitWords_any _ _ xs _ HS.out).mono ?_; rintro e w' ⟨rfl, rfl⟩; rw [HW.out])
            | (go_at_call 20; refine (areDifferent_any _ xs _ HS.out HSM.out hl).mono ?_; rintro e w0 ⟨rfl, hb0⟩; rw [HD.out]; have HB0 := hid hb0; clear hb0)
            | fail)
          go_ret2
          exact ⟨_, ret_sb9 HB.out.symm, by rw [HR.out]; exact Own.nil _ _, HB0.out⟩
      · have HOK := hid (show ptOk n xs = false by rw [ptOk, decide_eq_false h3]; simp)
        have HB := hid (ptB_no HOK.out)
        have HR := hid (ptRes_no HOK.out)
        clear h1 _wn _hwf
        go_enter Tryd.func7, Tryd.ntmps7
        go_wp2_with (first
          | (go_at_call 19; refine (areBitWords_any _ _ xs _ HS.out).mono ?_; rintro e w' ⟨rfl, rfl⟩; rw [HW.out])
          | fail)
        go_ret2
        exact ⟨_, ret_sb9 HB.out.symm, by rw [HR.out]; exact Own.nil _ _, Below.refl _ _⟩
    · have HOK := hid (show ptOk n xs = false by rw [ptOk, decide_eq_false h2]; simp)
      have HB := hid (ptB_no HOK.out)
      have HR := hid (ptRes_no HOK.out)
      have h2' : (xs.length : Int) < 1 := by omega
      clear h1 _wn _hwf
      go_enter Tryd.func7, Tryd.ntmps7
      go_wp2_with (first
        | (go_at_call 19; refine (areBitWords_any _ _ xs _ HS.out).mono ?_; rintro e w' ⟨rfl, rfl⟩; rw [HW.out])
        | fail)
      go_ret2
      exact ⟨_, ret_sb9 HB.out.symm, by rw [HR.out]; exact Own.nil _ _, Below.refl _ _⟩
  · have h1 : wordsB n xs = false := by simpa using h1
    have HOK := hid (show ptOk n xs = false by rw [ptOk, h1]; rfl)
    have HB := hid (ptB_no HOK.out)
    have HR := hid (ptRes_no HOK.out)
    have HW := hid h1
    clear h1 _wn _hwf
    go_enter Tryd.func7, Tryd.ntmps7
    go_wp2_with (first
      | (go_at_call 19; refine (areBitWords_any _ _ xs _ HS.out).mono ?_; rintro e w' ⟨rfl, rfl⟩; rw [HW.out])
      | fail)
    go_ret2
    exact ⟨_, ret_sb9 HB.out.symm, by rw [HR.out]; exact Own.nil _ _, Below.refl _ _⟩
end Go.Proofs.YtijjdidljoicfaaDoor
