/- Contracts: windowsOf, differences, placesNear; brStands. Conditions: slices that are not nil and read as lists of at most 2^20 numbers. -/
import Derived.Test.YteimfdpkodcfbaaBr1
import Derived.Test.YteimfdpkodcfbaaBs3
namespace Go.Proofs.Yteimfdpkodcfbaa
open Go.RowKit
set_option linter.unusedVariables false
set_option maxRecDepth 4000

theorem Try.infoW : (Try.prog.info? 22).map (fun i => (i.zero, i.size, i.bytes)) = some (some (.slice none 0 0), 1, 24) := by kernel_rfl
theorem run_make_rowsW (n : Nat) (hn : n ≤ 1048576) (w : World) : Sem.run Try.prog (Instr.makeSlice 28 (.int .i64 n) (.int .i64 n)) w = .ok (.slice (some ⟨w.heap.size, 0, none⟩) n n) (w.alloc (.cells (madeCells #[.slice none 0 0] n) 22)) :=
  run_make_row' 28 22 (.slice none 0 0) 24 Try.underlying28 Try.infoW rfl .i64 .i64 n (by omega) (by omega) w
/-- the window slots: the first j ones are there -/
def winV (g n N : Nat) (j t : Nat) : Value := if t < j then .slice (if N = t then some ⟨g, 0, none⟩ else some ⟨g, t, none⟩) n (N - t) else .slice none 0 0
theorem winV_set {w : World} {g h n N j m : Nat} (hr : w.rowIs g 22 m (fun t => winV h n N j t)) :
    (w.setCell ⟨g, j, none⟩ (.slice (if N = j then some ⟨h, 0, none⟩ else some ⟨h, j, none⟩) n (N - j))).rowIs g 22 m (fun t => winV h n N (j + 1) t) := by
  refine (hr.set j _).congr (fun i hi => ?_)
  unfold winV
  by_cases e : i = j
  · subst e
    rw [if_pos rfl, if_pos (show i < i + 1 by omega)]
  · rw [if_neg e]
    by_cases h1 : i < j
    · rw [if_pos h1, if_pos (show i < j + 1 by omega)]
    · rw [if_neg h1, if_neg (show ¬ i < j + 1 by omega)]
theorem winV_sits {w : World} {B g h n N c : Nat} {xs : List Int} (hN : N = xs.length + n - 1) (h1 : 1 ≤ xs.length) (hl : xs.length ≤ 2048) (hn : n ≤ 2048) (hr : w.rowIs g 22 xs.length (fun t => winV h n N xs.length t)) (ho : Own w B (.slice (some ⟨h, 0, none⟩) N c) (arL xs 0 N)) :
    SitsL w (.slice (some ⟨g, 0, none⟩) xs.length xs.length) (winL xs n) := by
  obtain ⟨q1, q2, q3, q4, q5, q6, q7⟩ := Own_cells ho
  have q6 : ∀ i, i < N → w.cell? ⟨h, i, none⟩ = some (.int .i64 ((arL xs 0 N).getD i 0)) := fun i hi => by
    rw [q6 i (by rw [arL_len]; exact hi), getD_at]
  rw [arL_len] at q1
  refine ⟨g, 0, xs.length, by rw [winL_len], by rw [winL_len]; exact Nat.le_refl _, by omega, hr.lt, fun i hi => ?_⟩
  rw [winL_len] at hi
  refine ⟨_, by rw [Nat.zero_add]; exact hr.cell hi, ?_⟩
  unfold winV
  rw [if_pos hi, winL_at hi]
  by_cases e : N = i
  · rw [if_pos e]
    refine ⟨h, 0, N - i, by rw [arL_len], by rw [arL_len]; omega, by omega, q4, fun t ht => ?_⟩
    rw [arL_len] at ht
    omega
  · rw [if_neg e]
    refine ⟨h, i, N - i, by rw [arL_len], by rw [arL_len]; omega, by omega, q4, fun t ht => ?_⟩
    rw [← getD_at ht]
    rw [arL_len] at ht
    rw [q6 (i + t) (by omega), arL_at (by omega), arL_at ht, Nat.zero_add]
theorem windowsOf_any (v : Value) (xs : List Int) (n : Nat) (w : World) (h : Sits w v xs) (hn : n ≤ 2048) (h1 : 1 ≤ xs.length) (hl : xs.length ≤ 2048) :
    Calls Try.prog 132 #[v, .int .i64 (n : Int)] w fun e w' => ∃ g, e = .returned (.slice (some ⟨g, 0, none⟩) xs.length xs.length) ∧ SitsL w' (.slice (some ⟨g, 0, none⟩) xs.length xs.length) (winL xs n) ∧ Below w.heap.size w w' := by
  have HS := hid h
  obtain ⟨b, off, c, rfl, hc1, hm, hb, hc⟩ := h
  clear hc
  obtain ⟨N, hN⟩ : ∃ N : Nat, N = xs.length + n - 1 := ⟨_, rfl⟩
  have hN1 : ((xs.length : Int) + (n : Int)) - 1 = (N : Int) := by omega
  have hN2 : N ≤ 1048576 := by omega
  have HNN := hid hN
  clear hN
  go_enter Try.func132, Try.ntmps132
  go_wp2_with (first
    | (go_at_call 149; (refine (around_any _ xs 0 N _ HS.out (by omega) hN2 h1 (by omega)).mono ?_); (rintro e w1 ⟨rfl, ho, hb1⟩); (have HO := hid ho); (have HB1 := hid hb1); (clear ho hb1); (have hmk := run_make_rowsW xs.length (by omega) w1); (have HM := hid (World.rowIs_made w1 (.slice none 0 0) xs.length 22)); (have HB2 := hid ((HB1.out).alloc HB1.out.size (.cells (madeCells #[.slice none 0 0] xs.length) 22))))
    | fail)
  clear hmk
  obtain ⟨wm, hwm⟩ : ∃ wm, wm = w1.alloc (.cells (madeCells #[.slice none 0 0] xs.length) 22) := ⟨_, rfl⟩
  rw [← hwm] at HM HB2 ⊢
  have HL1 := hid (show w1.heap.size < wm.heap.size by rw [hwm]; simp)
  have HB3 := hid (show Below w1.heap.size w1 wm by rw [hwm]; exact (Below.refl _ _).alloc (Nat.le_refl _) _)
  clear hwm
  have HO3 := hid (HO.out.below HB3.out)
  have hg : w.heap.size < w1.heap.size := (World.ownsRow.lt HO.out _ rfl).2
  go_loopw [7, 20] (fun _ i wr => ∃ j : Nat, j ≤ xs.length ∧ i = .int .i64 (j : Int) ∧ wr.rowIs w1.heap.size 22 xs.length (fun t => winV w.heap.size n N j t) ∧ Own wr w.heap.size (.slice (some ⟨w.heap.size, 0, none⟩) N N) (arL xs 0 N) ∧ Below w.heap.size w wr) (fun _ i _ => xs.length - (intOf i).toNat)
  case atStart => exact ⟨0, Nat.zero_le _, rfl, HM.out.congr (fun t ht => by unfold winV; rw [if_neg (by omega)]), HO3.out, HB2.out⟩
  case round =>
    obtain ⟨j, hj, rfl, hrow, hown, hbel⟩ := hrel
    have HROW := hid hrow
    have HOW := hid hown
    have HB := hid hbel
    by_cases hlt : j < xs.length
    · have hf := hrow.frozen j
      obtain ⟨z, hz⟩ : ∃ z, wr.cell? ⟨w1.heap.size, j, none⟩ = some z := ⟨_, hrow.cell hlt⟩
      have hjn : j + n ≤ N := by have := HNN.out; omega
      have hjn2 : (j : Int) + (n : Int) ≤ (N : Int) := by omega
      clear hrow hown hbel
      go_wp2_with fail
      have HG := hid (grownBy_setCellAt wr w1.heap.size j (.slice (if N = j then some ⟨w.heap.size, 0, none⟩ else some ⟨w.heap.size, j, none⟩) n (N - j)))
      go_roundw
      case rel => exact ⟨j + 1, by omega, by go_num, winV_set HROW.out, HOW.out.kept HG.out (.inr (by simp only [Value.ownBlock, ne_eq, Option.some.injEq]; omega)), HB.out.setCell (p := ⟨w1.heap.size, j, none⟩) (Nat.le_of_lt hg) _⟩
      case measure => simp [intOf]; omega
    · obtain rfl : j = xs.length := by omega
      clear hrow hown hbel
      go_wp2_with fail
      go_ret
      exact ⟨_, rfl, winV_sits HNN.out h1 hl hn HROW.out HOW.out, HB.out⟩
theorem differences_any (v u : Value) (xs ys : List Int) (w : World) (h : Sits w v xs) (h' : Sits w u ys) (hl : xs.length ≤ ys.length) :
    Calls Try.prog 157 #[v, u] w fun e w' => e = .returned (.int .i64 (difT xs ys xs.length : Nat)) ∧ w = w' := by
  obtain ⟨b, off, c, rfl, hc1, hm, hb, hc⟩ := h
  obtain ⟨b', off', c', rfl, hc1', hm', hb', hc'⟩ := h'
  go_enter Try.func157, Try.ntmps157
  go_wp2
  go_loop [5, 6, 7, 10] (fun n _ _ i => ∃ k : Nat, k ≤ xs.length ∧ i = .int .i64 (k : Int) ∧ n = .int .i64 (difT xs ys k : Nat)) (fun _ _ _ i => xs.length - (intOf i).toNat)
  case atStart => exact ⟨0, Nat.zero_le _, rfl, rfl⟩
  case round =>
    obtain ⟨k, hk, rfl, rfl⟩ := hrel
    have hd := difT_le xs ys k
    by_cases hlt : k < xs.length
    · have hcx := hc k hlt
      have hlt2 : k < ys.length := by omega
      have hcy := hc' k hlt2
      clear hc hc'
      by_cases e : xs[k] = ys[k]
      · have HF := hid (show difT xs ys (k + 1) = difT xs ys k by rw [difT, getD_at hlt, getD_at hlt2, if_pos e]; rfl)
        have hb2 : (xs[k] != ys[k]) = false := by simp [e]
        go_wp2
        go_round
        case rel => exact ⟨k + 1, by omega, by go_num, by rw [HF.out]⟩
        case measure => simp [intOf]; omega
      · have HF := hid (show difT xs ys (k + 1) = difT xs ys k + 1 by rw [difT, getD_at hlt, getD_at hlt2, if_neg e])
        have hb2 : (xs[k] != ys[k]) = true := by simp [e]
        go_wp2
        go_round
        case rel => exact ⟨k + 1, by omega, by go_num, by rw [HF.out]; go_num⟩
        case measure => simp [intOf]; omega
    · obtain rfl : k = xs.length := by omega
      go_wp2
      go_ret
      exact ⟨rfl, rfl⟩
/-- the window stands at the place p -/
def stB (xs ys : List Int) (p : Nat) : Bool := decide (farP xs ys p ≤ 0)
theorem stB_yes {xs ys : List Int} {p : Nat} (h : farP xs ys p ≤ 0) : stB xs ys p = true := decide_eq_true h
theorem stB_no {xs ys : List Int} {p : Nat} (h : ¬ farP xs ys p ≤ 0) : stB xs ys p = false := decide_eq_false h
theorem brStands_any (v u : Value) (xs ys : List Int) (p : Nat) (w : World) (h : Sits w v xs) (h' : Sits w u ys) (hp : p < xs.length) (hl : xs.length ≤ 1048576) (hl2 : ys.length ≤ 1048576) :
    Calls Try.prog 124 #[v, u, .int .i64 (p : Int)] w fun e w' => e = .returned (.bool (stB xs ys p)) ∧ w = w' := by
  obtain ⟨b, off, c, rfl, hc1, hm, hb, hc⟩ := h
  obtain ⟨b', off', c', rfl, hc1', hm', hb', hc'⟩ := h'
  have HC := hid hc
  have HC' := hid hc'
  clear hc hc'
  go_enter Try.func124, Try.ntmps124
  go_wp2
  go_loop [7, 8, 11] (fun _ _ i => ∃ k : Nat, k ≤ ys.length ∧ i = .int .i64 (k : Int) ∧ difT ys (arL xs p ys.length) k = 0) (fun _ _ i => ys.length - (intOf i).toNat)
  case atStart => exact ⟨0, Nat.zero_le _, rfl, rfl⟩
  case round =>
    obtain ⟨k, hk, rfl, hd⟩ := hrel
    have HD := hid hd
    clear hd
    by_cases hlt : k < ys.length
    · have hcy := HC'.out k hlt
      obtain ⟨q, hq⟩ : ∃ q, q = (p + k) % xs.length := ⟨_, rfl⟩
      have hq1 : q < xs.length := by rw [hq]; exact Nat.mod_lt _ (by omega)
      have hcx := HC.out q hq1
      have u1 : ((p : Int) + (k : Int)) % (xs.length : Int) = (q : Int) := by rw [hq]; simp
      have u2 : ((p : Int) + (k : Int)).tmod (xs.length : Int) = (q : Int) := by rw [Int.tmod_eq_emod_of_nonneg (by omega)]; exact u1
      have u3 : ((xs.length : Int) == 0) = false := beq_eq_false_iff_ne.2 (by omega)
      have u6 : IntKind.i64.wrap (q : Int) = (q : Int) := IntWalk.i64_in _ (by omega)
      have HQ := hid hq
      have HA := hid (show (arL xs p ys.length).getD k 0 = xs[q] by rw [arL_at hlt, ← hq, getD_at hq1])
      clear hq
      by_cases e : xs[q] = ys[k]
      · have HF := hid (show difT ys (arL xs p ys.length) (k + 1) = 0 by rw [difT, HD.out, HA.out, getD_at hlt, if_pos e.symm])
        have hb2 : (xs[q] != ys[k]) = false := by simp [e]
        go_wp2
        go_round
        case rel => exact ⟨k + 1, by omega, by go_num, HF.out⟩
        case measure => simp [intOf]; omega
      · have HF := hid (show stB xs ys p = false by
          refine stB_no ?_
          intro h0
          have h1 := difT_mono ys (arL xs p ys.length) (show k + 1 ≤ ys.length by omega)
          rw [difT, HD.out, HA.out, getD_at hlt, if_neg (fun e2 => e e2.symm)] at h1
          unfold farP at h0
          omega)
        have hb2 : (xs[q] != ys[k]) = true := by simp [e]
        go_wp2
        go_ret
        exact ⟨ret_bool HF.out.symm, rfl⟩
    · obtain rfl : k = ys.length := by omega
      have HF := hid (show stB xs ys p = true from stB_yes (by unfold farP; rw [HD.out]; exact Nat.le_refl _))
      go_wp2
      go_ret
      exact ⟨ret_bool HF.out.symm, rfl⟩
theorem SitsL.at' {w : World} {L : List (List Int)} {g m c : Nat} (h : SitsL w (.slice (some ⟨g, 0, none⟩) m c) L) (i : Nat) (hi : i < L.length) : ∃ z, w.cell? ⟨g, i, none⟩ = some z ∧ Sits w z L[i] := by
  obtain ⟨b, off, c', e, h1, h2, h3, h4⟩ := h
  simp only [Value.slice.injEq, Option.some.injEq, Addr.mk.injEq, and_true] at e
  obtain ⟨⟨rfl, rfl⟩, _, rfl⟩ := e
  obtain ⟨z, h5, h6⟩ := h4 i hi
  exact ⟨z, by rwa [Nat.zero_add] at h5, h6⟩
theorem SitsL.lt' {w : World} {L : List (List Int)} {g m c : Nat} (h : SitsL w (.slice (some ⟨g, 0, none⟩) m c) L) : g < w.heap.size := by
  obtain ⟨b, off, c', e, h1, h2, h3, h4⟩ := h
  simp only [Value.slice.injEq, Option.some.injEq, Addr.mk.injEq, and_true] at e
  obtain ⟨⟨rfl, rfl⟩, _, rfl⟩ := e
  exact h3
theorem placesNear_any (v u : Value) (xs ys : List Int) (m : Nat) (w : World) (h : Sits w v xs) (h' : Sits w u ys) (h1 : 1 ≤ xs.length) (hl : xs.length ≤ 2048) (hl2 : ys.length ≤ 2048) (hm2 : m ≤ 4) :
    Calls Try.prog 127 #[v, u, .int .i64 (m : Int)] w fun e w' => ∃ r, e = .returned r ∧ OwnE w' w.heap.size r (nearL xs ys m) ∧ Below w.heap.size w w' := by
  have HS := hid h
  have HS' := hid h'
  obtain ⟨b, off, c, rfl, hc1, hm, hb, hc⟩ := h
  obtain ⟨b', off', c', rfl, hc1', hm', hb', hc'⟩ := h'
  clear hc hc'
  obtain ⟨i0, hi, hz0, hz1, hz2⟩ := info_parts Try.info3
  go_enter Try.func127, Try.ntmps127
  go_wp2_with (first
    | (go_at_call 132; (refine (windowsOf_any _ xs ys.length _ HS.out hl2 h1 hl).mono ?_); (rintro e w1 ⟨g1, rfl, hs1, hb1⟩); (have HW := hid hs1); (have HB1 := hid hb1); (clear hs1 hb1))
    | fail)
  go_loopw [7, 8, 9, 15] (fun vp _ _ i wr => ∃ j : Nat, i = .int .i64 (j : Int) ∧ j ≤ xs.length ∧ Own wr w1.heap.size vp (nearT xs ys m j) ∧ Below w1.heap.size w1 wr) (fun _ _ _ i _ => xs.length - (intOf i).toNat)
  case atStart => exact ⟨0, rfl, Nat.zero_le _, Own.nil _ _, Below.refl _ _⟩
  case round =>
    obtain ⟨j, rfl, hj, hown, hbel1⟩ := hrel
    have HO := hid hown
    have HB := hid (Below_chain HB1.out hbel1)
    have HB2 := hid hbel1
    have HLE := hid (nearT_len xs ys m j)
    by_cases hlt : j < xs.length
    · obtain ⟨z, hz, hsit⟩ := HW.out.at' j (by rw [winL_len]; exact hlt)
      have hg := HW.out.lt'
      have hcx : wr.cell? ⟨g1, j, none⟩ = some z := (hbel1.cell (by exact hg)).trans hz
      have HZ := hid (hsit.below hbel1)
      rw [winL_at hlt] at HZ
      obtain ⟨gb, go, gc, hze⟩ : ∃ gb go gc, z = .slice (some ⟨gb, go, none⟩) (arL xs j ys.length).length gc := by obtain ⟨_, _, _, e, _⟩ := HZ.out; exact ⟨_, _, _, e⟩
      rw [arL_len] at hze
      subst hze
      have HY := hid (HS'.out.below HB.out)
      have HAL := hid (arL_len xs j ys.length)
      obtain ⟨ao, cc, rfl, hcc, _⟩ := hown.view3
      obtain ⟨D, hD⟩ : ∃ D, D = farP xs ys j := ⟨_, rfl⟩
      have HDD := hid (show difT ys (arL xs j ys.length) ys.length = D by rw [hD]; rfl)
      have hDb : D ≤ 2048 := by rw [hD]; exact Nat.le_trans (difT_le _ _ _) hl2
      clear hown hbel1 hz hsit
      by_cases hle : D ≤ m
      · have HN := hid (nearT_yes (xs := xs) (ys := ys) (m := m) (k := j) (by rw [← hD]; exact hle))
        have hle2 : (D : Int) ≤ (m : Int) := by omega
        obtain ⟨L, hL⟩ : ∃ L, L = nearT xs ys m j := ⟨_, rfl⟩
        rw [← hL] at HO HN HLE ⊢
        have hL2 := HLE.out
        have hL3 : L.length ≤ 1048576 := by omega
        clear hD hL
        go_wp2_with (first
          | (go_at_call 157; (refine (differences_any _ _ ys (arL xs j ys.length) _ HY.out HZ.out (by rw [HAL.out]; exact Nat.le_refl _)).mono ?_); (rintro e w2 ⟨rfl, rfl⟩); (rw [HDD.out]))
          | (at_builtin; (refine wpList_push _ rfl _ _ 22 rfl w1.heap.size i0 Try.underlying22 hi hz0 hz1 hz2 ao L.length cc L rfl HO.out (j : Int) wr.heap.size rfl rfl hL3 HB2.out.size ?_); (intro g5 c5 w5 hp5); (have HO5 := hid (show Own w5 w1.heap.size (.slice (some ⟨g5, 0, none⟩) (L.length + 1) c5) (nearT xs ys m (j + 1)) by rw [HN.out]; exact hp5.own)); (have HB5 := hid (hp5.below w1 rfl HB2.out)); (clear hp5))
          | fail)
        go_roundw
        case rel => exact ⟨j + 1, by go_num, by omega, HO5.out, HB5.out⟩
        case measure => simp [intOf]; omega
      · have HN := hid (nearT_no (xs := xs) (ys := ys) (m := m) (k := j) (by rw [← hD]; exact hle))
        have hle2 : ¬ (D : Int) ≤ (m : Int) := by omega
        obtain ⟨L, hL⟩ : ∃ L, L = nearT xs ys m j := ⟨_, rfl⟩
        rw [← hL] at HO HN HLE ⊢
        clear hD hL
        go_wp2_with (first
          | (go_at_call 157; (refine (differences_any _ _ ys (arL xs j ys.length) _ HY.out HZ.out (by rw [HAL.out]; exact Nat.le_refl _)).mono ?_); (rintro e w2 ⟨rfl, rfl⟩); (rw [HDD.out]))
          | fail)
        go_roundw
        case rel => exact ⟨j + 1, by go_num, by omega, by rw [HN.out]; exact HO.out, HB2.out⟩
        case measure => simp [intOf]; omega
    · obtain rfl : j = xs.length := by omega
      clear hown hbel1
      go_wp2_with (first | (go_at_call 158; (refine (ended_any w1.heap.size _ _ _ HO.out).mono ?_); (rintro e w2 ⟨r, rfl, he, _, rfl⟩); (have HE := hid he); (clear he)) | fail)
      go_ret
      exact ⟨_, rfl, HE.out.mono HB1.out.size, HB.out⟩
end Go.Proofs.Yteimfdpkodcfbaa
