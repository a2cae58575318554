/- Contracts: blocksOf, both BlocksOf. Conditions: slices that are not nil and read as lists of at most 2^20 numbers. -/
import Derived.Test.YtakelcboamjndaaBk
import Derived.Test.YtakelcboamjndaaNb
import Derived.Test.YtakelcboamjndaaLE
import Derived.Test.YtakelcboamjndaaEnd
import Derived.Test.YtakelcboamjndaaShG
namespace Go.Proofs.Ytakelcboamjndaa
open Go.RowKit Go.Maps
set_option linter.unusedVariables false
set_option maxRecDepth 4000

theorem Bk.grow {w w' : World} {g n y : Nat} {U : Nat → Value} {M M' : Nat → List Int} {v' : Value} {x : Int} (h : Bk w g n U M) (hy : y < n) (hp : Pushed w w' (g + 1) (U y) v' (M y) x) (hM : M' y = M y ++ [x]) (hO : ∀ i, i ≠ y → M' i = M i) :
    Bk (w'.setCell ⟨g, y, none⟩ v') g n (fun i => if i = y then v' else U i) M' := by
  have hng : (U y).ownBlock ≠ some g := fun e => by have := (World.ownsRow.lt (h.own y hy) g e).1; omega
  have hr : w'.rowIs g 22 n U := h.row.of_block (hp.block g h.row.lt hng)
  have hd : ∀ i, i < n → i ≠ y → Dj (U i) (U y) := fun i hi e => h.apart i y hi hy e
  have hg := grownBy_set9 w' g y v'
  have hk : ∀ (v : Value) (xs : List Int), Own w' (g + 1) v xs → Own (w'.setCell ⟨g, y, none⟩ v') (g + 1) v xs := fun v xs hv => hv.kept hg (by
    cases e : v.ownBlock with
    | none => exact .inl rfl
    | some q => exact .inr (fun e2 => by have h1 := (World.ownsRow.lt hv q e).1; have h2 := Option.some.inj e2; omega))
  refine ⟨hr.set y v', fun i hi => ?_, fun i j hi hj hij => ?_⟩
  · by_cases e : i = y
    · subst e
      rw [if_pos rfl, hM]
      exact hk _ _ hp.own
    · rw [if_neg e, hO i e]
      exact hk _ _ (hp.keep _ _ _ (h.own i hi) (hd i hi e)).1
  · by_cases e : i = y
    · have e2 : j ≠ y := fun e2 => hij (e.trans e2.symm)
      simp only [e, if_true, if_neg e2]
      exact (hp.keep _ _ _ (h.own j hj) (hd j hj e2)).2.symm
    · by_cases e2 : j = y
      · simp only [e2, if_true, if_neg e]
        exact (hp.keep _ _ _ (h.own i hi) (hd i hi e)).2
      · simp only [if_neg e, if_neg e2]
        exact h.apart i j hi hj hij
/-- as Bk, the rows may go on behind the caps; those from r on do not -/
structure BkE (w : World) (g n r : Nat) (U : Nat → Value) (M : Nat → List Int) : Prop where
  row : w.rowIs g 22 n U
  own : ∀ y, y < n → OwnE w (g + 1) (U y) (M y)
  rest : ∀ y, r ≤ y → y < n → Own w (g + 1) (U y) (M y)
  apart : ∀ i j, i < n → j < n → i ≠ j → Dj (U i) (U j)
theorem Bk.e {w : World} {g n : Nat} {U : Nat → Value} {M : Nat → List Int} (h : Bk w g n U M) (r : Nat) : BkE w g n r U M := ⟨h.row, fun y hy => (h.own y hy).e, fun y _ hy => h.own y hy, h.apart⟩
theorem BkE.lists {w : World} {g n r : Nat} {U : Nat → Value} {M : Nat → List Int} (h : BkE w g n r U M) (hm : n ≤ maxLen) : ListsE w g w.heap.size (.slice (some ⟨g, 0, none⟩) n n) ((List.range n).map M) := by
  have hg : ∀ i (hi : i < ((List.range n).map U).length), ((List.range n).map U)[i] = U i := fun i hi => by simp
  refine ⟨(List.range n).map U, by simp, ?_, fun i h1 h2 => ?_, fun i j h1 h2 a hij ha hb => ?_⟩
  · obtain ⟨c, hc, hs, hf⟩ := h.row
    refine .inr ⟨g, n, c, by simp, Nat.le_refl _, (Array.getElem?_eq_some_iff.1 hc).1, hc, by simp, hm, by omega, ?_⟩
    refine List.ext_getElem? fun i => ?_
    by_cases hi : i < n
    · have h1 := hf i hi
      rw [List.getElem?_take_of_lt (by simpa using hi), List.getElem?_map, List.getElem?_range hi]
      simpa using h1
    · rw [List.getElem?_eq_none (by simp; omega), List.getElem?_eq_none (by simp; omega)]
  · have hi : i < n := by simpa using h1
    rw [hg i h1]
    have h3 := h.own i hi
    refine ⟨by simpa using h3.mono (show g ≤ g + 1 by omega), fun k hk => (h3.low k hk).2⟩
  · rw [hg i h1] at ha
    rw [hg j h2] at hb
    have hi : i < n := by simpa using h1
    have hj : j < n := by simpa using h2
    exact h.apart i j hi hj hij a ha hb
theorem BkE.put {w : World} {g n r : Nat} {U : Nat → Value} {M : Nat → List Int} {u : Value} (h : BkE w g n r U M) (hr : r < n) (hu : OwnE w (g + 1) u (M r)) (hb : u.ownBlock = (U r).ownBlock) : BkE (w.setCell ⟨g, r, none⟩ u) g n (r + 1) (fun i => if i = r then u else U i) M := by
  have hg := grownBy_set9 w g r u
  refine ⟨h.row.set r u, fun i hi => ?_, fun i h1 h2 => ?_, fun i j hi hj hij => ?_⟩
  · have hk : ∀ (v : Value) (xs : List Int), OwnE w (g + 1) v xs → OwnE (w.setCell ⟨g, r, none⟩ u) (g + 1) v xs := fun v xs hv => hv.of_block fun k hk => hg.block k (hv.low k hk).2 (fun e => by have h1 := (hv.low k hk).1; have h2 := Option.some.inj e; omega)
    by_cases e : i = r
    · subst e; rw [if_pos rfl]; exact hk _ _ hu
    · rw [if_neg e]; exact hk _ _ (h.own i hi)
  · rw [if_neg (by omega)]
    exact (h.rest i (by omega) h2).kept hg (by
      cases e : (U i).ownBlock with
      | none => exact .inl rfl
      | some q => exact .inr (fun e2 => by have h3 := (World.ownsRow.lt (h.rest i (by omega) h2) q e).1; have h4 := Option.some.inj e2; omega))
  · have hx : ∀ i, (if i = r then u else U i).ownBlock = (U i).ownBlock := fun i => by
      by_cases e : i = r
      · subst e; rw [if_pos rfl]; exact hb
      · rw [if_neg e]
    intro q hq
    rw [hx] at hq
    rw [hx]
    exact h.apart i j hi hj hij q hq
theorem OwnE.sliceB {w : World} {B : Nat} {v : Value} {xs : List Int} (h : OwnE w B v xs) : ∃ ao n c, v = .slice ao n c := by
  rcases h.form with ⟨rfl, _⟩ | ⟨g, cap, rfl, _⟩
  · exact ⟨none, 0, 0, rfl⟩
  · exact ⟨_, _, cap, rfl⟩
def blL (a : List Int) (n : Nat) : List (List Int) := (List.range n).map (fun y : Nat => bkL a (y : Int) a.length)
set_option maxHeartbeats 2000000 in
theorem blocksOf_any (v : Value) (a : List Int) (n : Nat) (w : World) (h : Reads w v a) (hg : grB a = true) (hn : (n : Int) = topL a + 1) :
    Calls Try.prog 53 #[v] w fun e w' => ∃ u, e = .returned u ∧ ListsE w' w.heap.size w'.heap.size u (blL a n) ∧ Below w.heap.size w w' := by
  obtain ⟨hgr, hg1, hg12⟩ := grB_iff.1 hg
  have HR := hid h
  have hnle : n ≤ 12 := by
    have h1 : topL a < a.length := topTo_le (by unfold grB at hg; rw [Bool.and_eq_true] at hg; exact hg.1)
    omega
  have hel : ∀ i, i < a.length → ∃ y : Nat, a.getD i 0 = (y : Int) ∧ y < n := fun i hi => by
    have h1 := (hgr i hi).1
    have h2 := topL_mem (p := a) (x := a.getD i 0) (by rw [getD_at hi]; exact List.getElem_mem _)
    exact ⟨(a.getD i 0).toNat, by omega, by omega⟩
  have HEL := hid hel
  have HNB := hid (show ∀ V W, Reads W V a → Calls Try.prog 70 #[V] W fun e w' => e = .returned (.int .i64 (n : Int)) ∧ W = w' from fun V W hV => by
    rw [hn]; exact numberBehind_any V a W hV (fun x hx => by
      obtain ⟨i, hi, rfl⟩ := List.getElem_of_mem hx
      obtain ⟨y, h1, h2⟩ := hel i hi
      rw [getD_at hi] at h1; omega))
  have hmk := run_make_rows n (by omega) w
  have HM := hid (World.rowIs_made w (.slice none 0 0) n 22)
  have HB0 := hid ((Below.refl w.heap.size w).alloc (Nat.le_refl _) (.cells (madeCells #[.slice none 0 0] n) 22))
  have HS0 := hid (show w.heap.size < (w.alloc (.cells (madeCells #[.slice none 0 0] n) 22)).heap.size by simp)
  obtain ⟨wm, hwm⟩ : ∃ wm, wm = w.alloc (.cells (madeCells #[.slice none 0 0] n) 22) := ⟨_, rfl⟩
  rw [← hwm] at hmk HM HB0 HS0
  obtain ⟨i0, hi, hz0, hz1, hz2⟩ := info_parts Try.info3
  obtain ⟨ao, c, rfl, hc1, hm, h⟩ := h.view
  rcases h with h | ⟨b, off, rfl, hb, hc⟩
  · rw [h] at hg1; simp at hg1
  have HC := hid hc
  clear hc hwm hn hg hgr hel
  go_enter Try.func53, Try.ntmps53
  go_wp2_with (first | (go_at_call 70; (refine (HNB.out _ _ HR.out).mono ?_); (rintro e w' ⟨rfl, rfl⟩)) | fail)
  clear hmk
  go_loopw [13] (fun i wr => ∃ (k : Nat) (U : Nat → Value), k ≤ a.length ∧ i = .int .i64 k ∧ Bk wr w.heap.size n U (fun y => bkL a (y : Int) k) ∧ Below w.heap.size w wr ∧ w.heap.size < wr.heap.size) (fun i _ => a.length - (intOf i).toNat)
  case atStart => exact ⟨0, fun _ => .slice none 0 0, Nat.zero_le _, rfl, ⟨HM.out, fun y hy => Own.nil _ _, fun i j _ _ _ => Dj.nil _⟩, HB0.out, HS0.out⟩
  case round =>
    obtain ⟨k, U, hk, rfl, hbk, hbel, hsz⟩ := hrel
    have HB := hid hbel
    have HBK := hid hbk
    have HSZ := hid hsz
    by_cases hlt : k < a.length
    · obtain ⟨y, hy, hyn⟩ := HEL.out k hlt
      have hcx := (hbel.cell (p := ⟨b, off + k, none⟩) (by exact hb)).trans (HC.out k hlt)
      rw [← getD_at hlt, hy] at hcx
      have hcy : wr.cell? ⟨w.heap.size, y, none⟩ = some (U y) := hbk.row.cell hyn
      have hoy := hbk.own y hyn
      obtain ⟨aO, cO, hv⟩ := hoy.sliceA
      have hXl := bkL_le a (y : Int) k
      obtain ⟨X, hX⟩ : ∃ X, X = bkL a (y : Int) k := ⟨_, rfl⟩
      have HXX := hid hX
      simp only [← hX] at hoy hv hXl
      obtain ⟨q, hq⟩ : ∃ q, q = X.length := ⟨_, rfl⟩
      rw [← hq] at hv hXl
      rw [hv] at hcy hoy
      have HOY := hid hoy
      have HV := hid hv
      have HXN := hid (show bkL a (y : Int) (k + 1) = X ++ [(k : Int)] by rw [bkL, if_pos hy, hX])
      have HXO := hid (show ∀ i : Nat, i ≠ y → bkL a (i : Int) (k + 1) = bkL a (i : Int) k from fun i hi => by rw [bkL, if_neg (by rw [hy]; omega)])
      have hq12 : q ≤ 12 := by omega
      have q1 : (0 : Int) ≤ (k : Int) := by omega
      have q2 : (k : Int) < (a.length : Int) := by omega
      have q3 : (0 : Int) ≤ (y : Int) := by omega
      have q4 : (y : Int) < (n : Int) := by omega
      clear hbk hbel hy hoy hv hX hq hsz hXl
      go_wp2_with (first
        | (at_builtin; (refine wpList_push _ rfl _ _ 22 rfl (w.heap.size + 1) i0 Try.underlying22 hi hz0 hz1 hz2 aO q cO X rfl HOY.out (k : Int) wr.heap.size rfl rfl (by omega) (by have := HSZ.out; omega) ?_); (intro g2 c2 w2 hp2); (have HP2 := hid hp2); (have hrow2 := HBK.out.row.of_block (hp2.block w.heap.size HBK.out.row.lt (fun e => by have h1 := (World.ownsRow.lt HOY.out w.heap.size e).1; omega))); (have hcy2 := hrow2.cell hyn); (have hfy2 := hrow2.frozen y); (clear hp2 hrow2))
        | fail)
      have HBN := hid (Bk.grow (M' := fun i => bkL a (i : Int) (k + 1)) HBK.out hyn (v' := .slice (some ⟨g2, 0, none⟩) (q + 1) c2) (x := (k : Int)) (by have h := HP2.out; rw [← HV.out, HXX.out] at h; exact h) (by rw [HXN.out, HXX.out]) (fun i hi => HXO.out i hi))
      have HB1 := hid (HP2.out.under w.heap.size w (by omega) HB.out.size HB.out)
      have HS1 := hid (Nat.lt_of_lt_of_le HSZ.out HP2.out.size)
      go_roundw
      case rel => exact ⟨k + 1, _, by omega, by go_num, HBN.out, HB1.out.setCell (p := ⟨w.heap.size, y, none⟩) (Nat.le_refl _) _, by simpa using HS1.out⟩
      case measure => simp [intOf]; omega
    · obtain rfl : k = a.length := by omega
      clear hbk hbel hsz
      go_wp2_with fail
      go_loopw [31] (fun i wr => ∃ (r : Nat) (V : Nat → Value), r ≤ n ∧ i = .int .i64 (r : Int) ∧ BkE wr w.heap.size n r V (fun y => bkL a (y : Int) a.length) ∧ Below w.heap.size w wr) (fun i _ => n - (intOf i).toNat)
      case atStart => exact ⟨0, U, Nat.zero_le _, rfl, HBK.out.e 0, HB.out⟩
      case round =>
        obtain ⟨r, V, hr, rfl, hbk, hbel⟩ := hrel
        have HB2 := hid hbel
        have HBK2 := hid hbk
        by_cases hlr : r < n
        · have hcy : wr.cell? ⟨w.heap.size, r, none⟩ = some (V r) := hbk.row.cell hlr
          have hfy := hbk.row.frozen r
          have hov := hbk.rest r (Nat.le_refl _) hlr
          obtain ⟨aO, cO, hv⟩ := hov.sliceA
          obtain ⟨X, hX⟩ : ∃ X, X = bkL a (r : Int) a.length := ⟨_, rfl⟩
          simp only [← hX] at hov hv
          obtain ⟨q, hq⟩ : ∃ q, q = X.length := ⟨_, rfl⟩
          rw [← hq] at hv
          rw [hv] at hcy hov
          have HEN := hid (ended_any _ _ X wr hov)
          have HV := hid hv
          have HXX := hid hX
          have q1 : (0 : Int) ≤ (r : Int) := by omega
          have q2 : (r : Int) < (n : Int) := by omega
          clear hbk hbel hov hv hX hq
          go_wp2_with (first
            | (go_at_call 87; (refine HEN.out.mono ?_); (rintro e w4 ⟨u, rfl, ho, hob, rfl⟩); (obtain ⟨ao4, n4, c4, rfl⟩ := ho.sliceB); (have HO4 := hid ho); (have HOB := hid hob); (clear ho hob))
            | fail)
          have HBN := hid (HBK2.out.put hlr (u := .slice ao4 n4 c4) (by rw [← HXX.out]; exact HO4.out) (by rw [HV.out]; exact HOB.out))
          go_roundw
          case rel => exact ⟨r + 1, _, by omega, by go_num, HBN.out, HB2.out.setCell (p := ⟨w.heap.size, r, none⟩) (Nat.le_refl _) _⟩
          case measure => simp [intOf]; omega
        · obtain rfl : r = n := by omega
          have HLS := hid (hbk.lists (by unfold maxLen; omega))
          clear hbk hbel
          go_wp2_with fail
          go_ret
          exact ⟨_, rfl, HLS.out, HB2.out⟩
def boRes (a : List Int) : List (List Int) := if grB a = true then blL a (topL a + 1).toNat else []
theorem bo_n {a : List Int} (h : grB a = true) : (((topL a + 1).toNat : Nat) : Int) = topL a + 1 ∧ (topL a + 1).toNat ≤ 12 := by
  obtain ⟨_, _, h12⟩ := grB_iff.1 h
  have h1 : topL a < a.length := topTo_le (by unfold grB at h; rw [Bool.and_eq_true] at h; exact h.1)
  have h2 := topL_low a
  omega
theorem bound_BlocksOf (a : List Int) : preLen (boRes a) (boRes a).length ≤ 100000 := by
  unfold boRes
  split
  · rename_i h
    obtain ⟨_, _, h12⟩ := grB_iff.1 h
    have h3 := preLen_le (L := blL a (topL a + 1).toNat) (c := 12) (fun l hl => by
      obtain ⟨y, _, rfl⟩ := List.mem_map.1 hl
      have := bkL_le a (y : Int) a.length
      omega) (blL a (topL a + 1).toNat).length
    have h4 : (blL a (topL a + 1).toNat).length = (topL a + 1).toNat := by simp [blL]
    have h5 := (bo_n h).2
    rw [h4] at h3 ⊢
    omega
  · exact Nat.zero_le _
theorem ListsE.nil (w : World) (lo hi : Nat) : ListsE w lo hi (.slice none 0 0) [] := ⟨[], rfl, .inl ⟨rfl, rfl⟩, fun i h => by simp at h, fun i j h => by simp at h⟩
theorem impl_BlocksOf_any (v : Value) (xs : List Int) (w : World) (h : Sits w v xs) (hl : xs.length ≤ 1048576) (_hwf : ∀ x ∈ xs, (Lit.int .i64 x).wf = true) :
    Calls Try.prog 20 #[v] w fun e w' => ∃ u, e = .returned (.tuple #[u, .bool (grB xs)]) ∧ ListsE w' w.heap.size w'.heap.size u (boRes xs) ∧ Below w.heap.size w w' := by
  have HR := hid h.reads
  clear h
  cases hg : grB xs
  · have HF := hid (show boRes xs = [] by unfold boRes; rw [hg]; simp)
    go_enter Try.func20, Try.ntmps20
    go_wp2_with (first | (go_at_call 17; refine (impl_IsGrowth_any _ xs _ HR.out hl).mono ?_; rintro e w1 ⟨rfl, hb⟩; rw [hg]; have HB := hid hb; clear hb) | fail)
    go_ret2
    exact ⟨_, rfl, by rw [HF.out]; exact ListsE.nil _ _ _, HB.out⟩
  · have HF := hid (show boRes xs = blL xs (topL xs + 1).toNat by unfold boRes; rw [if_pos hg])
    have HG := hid hg
    have HN := hid (bo_n hg).1
    go_enter Try.func20, Try.ntmps20
    go_wp2_with (first
      | (go_at_call 53; (refine (blocksOf_any _ xs _ _ (HR.out.below HB.out) HG.out HN.out).mono ?_); (rintro e w2 ⟨u, rfl, ho, hb2⟩); (have HO := hid (ho.mono HB.out.size (Nat.le_refl _))); (have HB2 := hid (Below_chain HB.out hb2)); (clear ho hb2))
      | (go_at_call 17; refine (impl_IsGrowth_any _ xs _ HR.out hl).mono ?_; rintro e w1 ⟨rfl, hb⟩; rw [hg]; have HB := hid hb; clear hb)
      | fail)
    go_ret2
    exact ⟨_, rfl, by rw [HF.out]; exact HO.out, HB2.out⟩
theorem spec_BlocksOf_any (v : Value) (xs : List Int) (w : World) (h : Sits w v xs) (hl : xs.length ≤ 1048576) (_hwf : ∀ x ∈ xs, (Lit.int .i64 x).wf = true) :
    Calls Try.prog 19 #[v] w fun e w' => ∃ u, e = .returned (.tuple #[u, .bool (grB xs)]) ∧ ReadsL w' u (boRes xs) ∧ Below w.heap.size w w' := by
  have HR := hid h.reads
  clear h
  cases hg : grB xs
  · have HF := hid (show boRes xs = [] by unfold boRes; rw [hg]; simp)
    go_enter Try.func19, Try.ntmps19
    go_wp2_with (first | (go_at_call 48; refine (spGrowth_any _ xs _ HR.out hl).mono ?_; rintro e w1 ⟨rfl, rfl⟩; rw [hg]) | fail)
    go_ret2
    exact ⟨_, rfl, by rw [HF.out]; exact (ListsE.nil _ 0 0).reads, Below.refl _ _⟩
  · have HF := hid (show boRes xs = blL xs (topL xs + 1).toNat by unfold boRes; rw [if_pos hg])
    have HG := hid hg
    have HN := hid (bo_n hg).1
    have HM := hid (bo_n hg).2
    go_enter Try.func19, Try.ntmps19
    go_wp2_with (first
      | (go_at_call 52; (refine (spBlocks_any _ xs _ _ HR.out HG.out HN.out).mono ?_); (rintro e w2 ⟨U, rfl, hbk, hb2⟩); (have HO := hid ((hbk.e 0).lists (by have := HM.out; unfold maxLen; omega))); (have HB2 := hid hb2); (clear hbk hb2))
      | (go_at_call 48; refine (spGrowth_any _ xs _ HR.out hl).mono ?_; rintro e w1 ⟨rfl, rfl⟩; rw [hg])
      | fail)
    go_ret2
    exact ⟨_, rfl, by rw [HF.out]; exact HO.out.reads, HB2.out⟩
end Go.Proofs.Ytakelcboamjndaa
