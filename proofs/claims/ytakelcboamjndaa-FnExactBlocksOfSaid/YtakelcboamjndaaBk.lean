/- Contract: spBlocks. Conditions: the slice reads as a growth. -/
import Derived.Test.YtakelcboamjndaaPush
import Derived.Test.YtakelcboamjndaaNoC
namespace Go.Proofs.Ytakelcboamjndaa
open Go.RowKit Go.Maps
set_option linter.unusedVariables false
set_option maxRecDepth 4000

/-- the places of y among the first k -/
def bkL (a : List Int) (y : Int) : Nat → List Int
  | 0 => []
  | k + 1 => if a.getD k 0 = y then bkL a y k ++ [(k : Int)] else bkL a y k
theorem bkL_len (a : List Int) (y : Int) : ∀ k, k ≤ a.length → (bkL a y k).length = (a.take k).count y
  | 0, _ => rfl
  | k + 1, h => by
    rw [List.take_succ_eq_append_getElem (by omega), List.count_append, ← bkL_len a y k (by omega), bkL, List.count_singleton, getD_at (by omega)]
    split
    · rename_i e; simp [e]
    · rename_i e; simp [e]
theorem bkL_le (a : List Int) (y : Int) : ∀ k, (bkL a y k).length ≤ k
  | 0 => Nat.le_refl _
  | k + 1 => by
    have := bkL_le a y k
    rw [bkL]; split <;> simp <;> omega
theorem run_make_rows (n : Nat) (hn : n ≤ 1048576) (w : World) : Sem.run Try.prog (Instr.makeSlice 26 (.int .i64 n) (.int .i64 n)) w = .ok (.slice (some ⟨w.heap.size, 0, none⟩) n n) (w.alloc (.cells (madeCells #[.slice none 0 0] n) 22)) :=
  run_make_row' 26 22 (.slice none 0 0) 24 Try.underlying26 Try.infoL rfl .i64 .i64 n (by omega) (by omega) w
/-- n rows, apart from each other, in blocks behind g -/
structure Bk (w : World) (g n : Nat) (U : Nat → Value) (M : Nat → List Int) : Prop where
  row : w.rowIs g 22 n U
  own : ∀ y, y < n → Own w (g + 1) (U y) (M y)
  apart : ∀ i j, i < n → j < n → i ≠ j → Dj (U i) (U j)
theorem Bk.below {w w' : World} {g n : Nat} {U : Nat → Value} {M : Nat → List Int} (h : Bk w g n U M) (hb : Below w.heap.size w w') : Bk w' g n U M :=
  ⟨h.row.of_block (hb.block g h.row.lt), fun y hy => (h.own y hy).below hb, h.apart⟩
theorem Bk.put {w w' : World} {g n y B : Nat} {U : Nat → Value} {M M' : Nat → List Int} {u v' : Value} {G : List Int} {x : Int} (h : Bk w g n U M) (hy : y < n) (hp : Pushed w w' B u v' G x) (hu : ∀ q, u.ownBlock = some q → g < q ∧ ∀ i, i < n → (U i).ownBlock ≠ some q)
    (hB : ∀ q, v'.ownBlock = some q → g + 1 ≤ q) (hM : M' y = G ++ [x]) (hO : ∀ i, i ≠ y → M' i = M i) :
    Bk (w'.setCell ⟨g, y, none⟩ v') g n (fun i => if i = y then v' else U i) M' := by
  have hr : w'.rowIs g 22 n U := h.row.of_block (hp.block g h.row.lt (fun e => by have := (hu g e).1; omega))
  have hd : ∀ i, i < n → Dj (U i) u := fun i hi q hq e => (hu q e).2 i hi hq
  have hg := grownBy_set9 w' g y v'
  have ho : Own w' (g + 1) v' (G ++ [x]) := by
    have h1 := hp.own
    rcases h1.2 with hn | ⟨q, cap, cur, e, hg, rest⟩
    · exact ⟨h1.1, .inl hn⟩
    · exact ⟨h1.1, .inr ⟨q, cap, cur, e, hB q (by rw [e]; rfl), rest⟩⟩
  have hk : ∀ (v : Value) (xs : List Int), Own w' (g + 1) v xs → Own (w'.setCell ⟨g, y, none⟩ v') (g + 1) v xs := fun v xs hv => hv.kept hg (by
    cases e : v.ownBlock with
    | none => exact .inl rfl
    | some q => exact .inr (fun e2 => by have h1 := (World.ownsRow.lt hv q e).1; have h2 := Option.some.inj e2; omega))
  refine ⟨hr.set y v', fun i hi => ?_, fun i j hi hj hij => ?_⟩
  · by_cases e : i = y
    · subst e
      rw [if_pos rfl, hM]
      exact hk _ _ ho
    · rw [if_neg e, hO i e]
      exact hk _ _ (hp.keep _ _ _ (h.own i hi) (hd i hi)).1
  · by_cases e : i = y
    · have e2 : j ≠ y := fun e2 => hij (e.trans e2.symm)
      simp only [e, if_true, if_neg e2]
      exact (hp.keep _ _ _ (h.own j hj) (hd j hj)).2.symm
    · by_cases e2 : j = y
      · simp only [e2, if_true, if_neg e]
        exact (hp.keep _ _ _ (h.own i hi) (hd i hi)).2
      · simp only [if_neg e, if_neg e2]
        exact h.apart i j hi hj hij
theorem l1Own_nil6 (w : World) : Calls Try.prog 86 #[.slice none 0 0] w fun e w' => ∃ u, e = .returned u ∧ Own w' w.heap.size u [] ∧ Below w.heap.size w w' := by
  obtain ⟨i0, hi, hz0, hz1, hz2⟩ := info_parts Try.info3
  have HE := hid (show (w.alloc (.cells #[] 3)).ownsRow w.heap.size 3 1 (.slice (some ⟨w.heap.size, 0, none⟩) 0 0) 0 [] from World.ownsRow_made w #[] 0 (Nat.le_refl _) (by unfold maxLen; omega) rfl)
  have HB := hid ((Below.refl w.heap.size w).alloc (Nat.le_refl _) (.cells #[] 3))
  go_enter Try.func86, Try.ntmps86
  go_wp2_with (first | (at_builtin; refine wpList_append_own_none rfl _ _ 22 rfl w.heap.size 3 i0 1 Try.underlying22 hi _ _ _ rfl HE.out rfl ?_) | fail)
  go_ret
  exact ⟨_, rfl, HE.out, HB.out⟩
theorem l1Own_own6 (v : Value) (xs : List Int) (B : Nat) (w : World) (h : Own w B v xs) (hl : xs.length ≤ 1048576) :
    Calls Try.prog 86 #[v] w fun e w' => ∃ u, e = .returned u ∧ Own w' w.heap.size u xs ∧ Below w.heap.size w w' := by
  rcases h.form with ⟨rfl, rfl⟩ | ⟨g, cap, rfl, _⟩
  · exact l1Own_nil6 w
  · refine (l1Own_any _ xs w h.sits hl).mono ?_
    rintro e w' ⟨u, h1, h2, h3, _⟩
    exact ⟨u, h1, h2, h3⟩
theorem Own.sliceA {w : World} {B : Nat} {v : Value} {xs : List Int} (h : Own w B v xs) : ∃ ao c, v = .slice ao xs.length c := by
  obtain ⟨ao, c, rfl, _⟩ := h.view2
  exact ⟨ao, c, rfl⟩
set_option maxHeartbeats 2000000 in
theorem spBlocks_any (v : Value) (a : List Int) (n : Nat) (w : World) (h : Reads w v a) (hg : grB a = true) (hn : (n : Int) = topL a + 1) :
    Calls Try.prog 52 #[v] w fun e w' => ∃ U, e = .returned (.slice (some ⟨w.heap.size, 0, none⟩) n n) ∧ Bk w' w.heap.size n U (fun y => bkL a (y : Int) a.length) ∧ Below w.heap.size w w' := by
  obtain ⟨hgr, hg1, hg12⟩ := grB_iff.1 hg
  have HR := hid h
  have hnle : n ≤ 12 := by
    have h1 : topL a < a.length := topTo_le (by unfold grB at hg; rw [Bool.and_eq_true] at hg; exact hg.1)
    omega
  have hel : ∀ i, i < a.length → ∃ y : Nat, a.getD i 0 = (y : Int) ∧ y < n := fun i hi => by
    have h1 := (hgr i hi).1
    have h2 := topL_mem (p := a) (x := a.getD i 0) (by rw [getD_at hi]; exact List.getElem_mem _)
    exact ⟨(a.getD i 0).toNat, by omega, by omega⟩
  have HEL := hid hel
  obtain ⟨tp, htp⟩ : ∃ tp, tp = topL a := ⟨_, rfl⟩
  have HST := hid (show ∀ V W, Reads W V a → Calls Try.prog 62 #[V] W fun e w' => e = .returned (.int .i64 tp) ∧ W = w' from fun V W hV => by rw [htp]; exact spTop_any V a W hV (by omega))
  have u1 : IntKind.i64.wrap (tp + 1) = (n : Int) := by rw [IntWalk.i64_in _ (by omega)]; omega
  have hmk := run_make_rows n (by omega) w
  have HM := hid (World.rowIs_made w (.slice none 0 0) n 22)
  have HB0 := hid ((Below.refl w.heap.size w).alloc (Nat.le_refl _) (.cells (madeCells #[.slice none 0 0] n) 22))
  have HS0 := hid (show w.heap.size < (w.alloc (.cells (madeCells #[.slice none 0 0] n) 22)).heap.size by simp)
  obtain ⟨wm, hwm⟩ : ∃ wm, wm = w.alloc (.cells (madeCells #[.slice none 0 0] n) 22) := ⟨_, rfl⟩
  rw [← hwm] at hmk HM HB0 HS0
  obtain ⟨i0, hi, hz0, hz1, hz2⟩ := info_parts Try.info3
  obtain ⟨ao, c, rfl, hc1, hm, h⟩ := h.view
  rcases h with h | ⟨b, off, rfl, hb, hc⟩
  · rw [h] at hg1; simp at hg1
  have HC := hid hc
  clear hc hwm hn hg hgr hel htp
  go_enter Try.func52, Try.ntmps52
  go_wp2_with (first | (go_at_call 62; (refine (HST.out _ _ HR.out).mono ?_); (rintro e w' ⟨rfl, rfl⟩)) | fail)
  clear hmk
  go_loopw [13] (fun i wr => ∃ (k : Nat) (U : Nat → Value), k ≤ a.length ∧ i = .int .i64 k ∧ Bk wr w.heap.size n U (fun y => bkL a (y : Int) k) ∧ Below w.heap.size w wr ∧ w.heap.size < wr.heap.size) (fun i _ => a.length - (intOf i).toNat)
  case atStart => exact ⟨0, fun _ => .slice none 0 0, Nat.zero_le _, rfl, ⟨HM.out, fun y hy => Own.nil _ _, fun i j _ _ _ => Dj.nil _⟩, HB0.out, HS0.out⟩
  case round =>
    obtain ⟨k, U, hk, rfl, hbk, hbel, hsz⟩ := hrel
    have HB := hid hbel
    have HBK := hid hbk
    by_cases hlt : k < a.length
    · obtain ⟨y, hy, hyn⟩ := HEL.out k hlt
      have hcx := (hbel.cell (p := ⟨b, off + k, none⟩) (by exact hb)).trans (HC.out k hlt)
      rw [← getD_at hlt, hy] at hcx
      have hcy : wr.cell? ⟨w.heap.size, y, none⟩ = some (U y) := hbk.row.cell hyn
      have hfy : wr.frozen? ⟨w.heap.size, y, none⟩ = false := hbk.row.frozen y
      have hoy := hbk.own y hyn
      obtain ⟨aO, cO, hv⟩ := hoy.sliceA
      have HOY := hid hoy
      obtain ⟨X, hX⟩ : ∃ X, X = bkL a (y : Int) k := ⟨_, rfl⟩
      have HXL := hid (show X.length ≤ 12 by rw [hX]; have := bkL_le a (y : Int) k; omega)
      obtain ⟨q, hq⟩ : ∃ q, q = X.length := ⟨_, rfl⟩
      simp only [← hX] at HOY hv
      rw [← hq] at hv
      rw [hv] at hcy HOY
      have HV := hid hv
      have HXN := hid (show bkL a (y : Int) (k + 1) = X ++ [(k : Int)] by rw [bkL, if_pos hy, hX])
      have HXO := hid (show ∀ i : Nat, i ≠ y → bkL a (i : Int) (k + 1) = bkL a (i : Int) k from fun i hi => by rw [bkL, if_neg (by rw [hy]; omega)])
      have HOWN := hid (l1Own_own6 _ X _ _ HOY.out (by have := HXL.out; omega))
      have HSZ := hid hsz
      have hq12 : q ≤ 12 := by have := HXL.out; omega
      have HQ := hid hq
      have q1 : (0 : Int) ≤ (k : Int) := by omega
      have q2 : (k : Int) < (a.length : Int) := by omega
      have q3 : (0 : Int) ≤ (y : Int) := by omega
      have q4 : (y : Int) < (n : Int) := by omega
      clear hbk hbel hy hoy hv hX hq hsz
      go_wp2_with (first
        | (at_builtin; (refine wpList_push _ rfl _ _ 22 rfl wr.heap.size i0 Try.underlying22 hi hz0 hz1 hz2 a1 q c1 X rfl HO1.out (k : Int) w1.heap.size rfl rfl (by omega) HB1.out.size ?_); (intro g2 c2 w2 hp2); (have HP2 := hid hp2); (have hcy2 := (HBK1.out.row.of_block (hp2.block w.heap.size HBK1.out.row.lt (fun e => by have h1 := (World.ownsRow.lt HO1.out w.heap.size e).1; have h2 := HSZ.out; omega))).cell hyn); (have hfy2 := (HBK1.out.row.of_block (hp2.block w.heap.size HBK1.out.row.lt (fun e => by have h1 := (World.ownsRow.lt HO1.out w.heap.size e).1; have h2 := HSZ.out; omega))).frozen y); (clear hp2))
        | (go_at_call 86; (refine HOWN.out.mono ?_); (rintro e w1 ⟨u1, rfl, ho1, hb1⟩); (obtain ⟨a1, c1, rfl⟩ := ho1.sliceA); (rw [← HQ.out] at ho1 ⊢); (have HO1 := hid ho1); (have HB1 := hid hb1); (have HBK1 := hid (HBK.out.below hb1)); (clear ho1 hb1))
        | fail)
      have HBN := hid (Bk.put (M' := fun i => bkL a (i : Int) (k + 1)) HBK1.out hyn HP2.out (fun q hq => by
          have h1 := (World.ownsRow.lt HO1.out q hq).1
          have h2 := HSZ.out
          refine ⟨by omega, fun i hi e => ?_⟩
          have h3 := (World.ownsRow.lt (HBK.out.own i hi) q e).2
          omega) (fun q hq => by have h1 := (World.ownsRow.lt HP2.out.own q hq).1; have h2 := HSZ.out; omega) HXN.out (fun i hi => HXO.out i hi))
      have HB2 := hid (Below_chain HB.out (HP2.out.below wr rfl HB1.out))
      have HS2 := hid (show w.heap.size < w2.heap.size from Nat.lt_of_lt_of_le HSZ.out (HP2.out.below wr rfl HB1.out).size)
      go_roundw
      case rel => exact ⟨k + 1, _, by omega, by go_num, HBN.out, HB2.out.setCell (p := ⟨w.heap.size, y, none⟩) (Nat.le_refl _) _, by simpa using HS2.out⟩
      case measure => simp [intOf]; omega
    · obtain rfl : k = a.length := by omega
      clear hbk hbel
      go_wp2_with fail
      go_ret
      exact ⟨U, rfl, HBK.out, HB.out⟩
end Go.Proofs.Ytakelcboamjndaa
