/- Contracts of the laws' helpers on moves and slices of moves: toMove, toMoveS, szMoveS, eqMove, eqMoveS, markMoveS. Conditions: the slices read as lists of moves; at most 2^20 of them. -/
import Derived.Test.YteenmndgejeihaaMv5
import Derived.Deep.OwnRows
import Derived.Lib.LazyBuf
import Derived.Handy
namespace Go.Proofs.Yteenmndgejeihaa
open Go.RowKit
set_option linter.unusedVariables false
set_option maxRecDepth 4000

abbrev lmObj (k i j : Int) : Obj := .cells #[.int .i64 k, .int .i64 i, .int .i64 j] 35
abbrev mvA (k i j : Int) : Value := .agg #[.int .i64 k, .int .i64 i, .int .i64 j]
theorem sz_al {n : Nat} {w : World} (h : n ≤ w.heap.size) (o : Obj) : n ≤ (w.alloc o).heap.size := by simp; omega
theorem toMove_any (k i j : Int) (w : World) :
    Calls Try.prog 29 #[mvA k i j] w fun e w' => e = .returned (mvA k i j) ∧ Below w.heap.size w w' := by
  go_enter Try.func29, Try.ntmps29
  go_wp2_with fail
  go_returns
  exact ⟨rfl, (((Below.refl _ _).alloc (Nat.le_refl _) _).alloc (sz_al (Nat.le_refl _) _) _).alloc (sz_al (sz_al (Nat.le_refl _) _) _) _⟩
theorem Try.infoMv : (Try.prog.info? 38).map (fun i => (i.zero, i.size, i.bytes)) = some (some (mvA 0 0 0), 3, 24) := by kernel_rfl
/-- what stands in cell j when the first k moves are copied -/
def mvF (ms : List Mv) (k j : Nat) : Value := .int .i64 (if j < 3 * k then (if j % 3 = 0 then (mGet ms (j / 3)).1 else if j % 3 = 1 then (mGet ms (j / 3)).2.1 else (mGet ms (j / 3)).2.2) else 0)
theorem run_make_moves (n : Nat) (hn : n ≤ 1048576) (w : World) : Sem.run Try.prog (Instr.makeSlice 51 (.int .i64 n) (.int .i64 n)) w = .ok (.slice (some ⟨w.heap.size, 0, none⟩) n n) (w.alloc (.cells (madeCells #[.int .i64 0, .int .i64 0, .int .i64 0] (n * 3)) 38)) := by
  obtain ⟨i, hi, hzz⟩ := Option.map_eq_some_iff.1 Try.infoMv
  simp only [Prod.mk.injEq] at hzz
  obtain ⟨hz, hs, hb⟩ := hzz
  have hr := run_make (P := Try.prog) w 51 38 i (mvA 0 0 0) Try.underlying51 hi hz .i64 .i64 n n (by omega) (Int.le_refl _) (by rw [hb]; omega) (by omega)
  simp only [Int.toNat_natCast, hs] at hr
  exact hr
theorem made_moves (w : World) (ms : List Mv) (n : Nat) : (w.alloc (.cells (madeCells #[.int .i64 0, .int .i64 0, .int .i64 0] (n * 3)) 38)).rowIs w.heap.size 38 (n * 3) (mvF ms 0) := by
  have h := World.rowIs_alloc w (madeCells #[.int .i64 0, .int .i64 0, .int .i64 0] (n * 3)) 38 (mvF ms 0) (fun i hi => by
    rw [size_madeCells] at hi
    have h3 : i % 3 < 3 := Nat.mod_lt _ (by omega)
    obtain ⟨r, hr⟩ : ∃ r, r = i % 3 := ⟨_, rfl⟩
    rw [← hr] at h3
    simp only [madeCells, mvF]
    rw [Array.getElem?_eq_getElem (by simpa using hi)]
    simp [← hr]
    match r, h3 with
    | 0, _ => rfl
    | 1, _ => rfl
    | 2, _ => rfl)
  rwa [size_madeCells] at h
theorem mvF_succ {w : World} {g n k : Nat} {ms : List Mv} (h : w.rowIs g 38 (n * 3) (mvF ms k)) {m : Mv} (hm : m = mGet ms k) : (w.setCells g (k * 3) [.int .i64 m.1, .int .i64 m.2.1, .int .i64 m.2.2]).rowIs g 38 (n * 3) (mvF ms (k + 1)) := by
  refine (rowIs_setCells _ _ _ _ h).congr (fun j hj => ?_)
  subst hm
  simp only [List.length_cons, List.length_nil]
  by_cases h1 : k * 3 ≤ j ∧ j < k * 3 + (0 + 1 + 1 + 1)
  · rw [if_pos h1, mvF, if_pos (by omega)]
    obtain ⟨r, hr⟩ : ∃ r, r = j - k * 3 := ⟨_, rfl⟩
    have hj3 : j / 3 = k := by omega
    have hr3 : j % 3 = r := by omega
    rw [← hr, hj3, hr3]
    match r, show r < 3 by omega with
    | 0, _ => rfl
    | 1, _ => rfl
    | 2, _ => rfl
  · rw [if_neg h1, mvF, mvF]
    by_cases h2 : j < 3 * k
    · rw [if_pos h2, if_pos (by omega : j < 3 * (k + 1))]
    · rw [if_neg h2, if_neg (by omega : ¬ j < 3 * (k + 1))]
theorem mvF_cells {w : World} {g k n : Nat} {ms : List Mv} (h : w.rowIs g 38 (n * 3) (mvF ms n)) (hk : k < n) : w.cell? ⟨g, k * 3, none⟩ = some (.int .i64 (mGet ms k).1) ∧ w.cell? ⟨g, k * 3 + 1, none⟩ = some (.int .i64 (mGet ms k).2.1) ∧ w.cell? ⟨g, k * 3 + 2, none⟩ = some (.int .i64 (mGet ms k).2.2) := by
  refine ⟨?_, ?_, ?_⟩
  · rw [h.cell (by omega), mvF, if_pos (by omega), show k * 3 % 3 = 0 by omega, show k * 3 / 3 = k by omega]; rfl
  · rw [h.cell (by omega), mvF, if_pos (by omega), show (k * 3 + 1) % 3 = 1 by omega, show (k * 3 + 1) / 3 = k by omega]; rfl
  · rw [h.cell (by omega), mvF, if_pos (by omega), show (k * 3 + 2) % 3 = 2 by omega, show (k * 3 + 2) / 3 = k by omega]; rfl
/-- a row of moves of its own in block g -/
def RowM (w : World) (g : Nat) (ms : List Mv) : Prop := w.rowIs g 38 (ms.length * 3) (mvF ms ms.length)
theorem RowM.reads {w : World} {g : Nat} {ms : List Mv} (h : RowM w g ms) (hl : ms.length ≤ 1048576) : ReadsM w (.slice (some ⟨g, 0, none⟩) ms.length ms.length) ms := by
  refine ⟨_, ms.length, rfl, Nat.le_refl _, by unfold maxLen; omega, .inr ⟨g, 0, rfl, World.rowIs.lt h, fun t ht => ?_⟩⟩
  have := mvF_cells h ht
  rw [mGet_at ht] at this
  simpa using this
theorem RowM.below {w w' : World} {g : Nat} {ms : List Mv} (h : RowM w g ms) (hb : Below w.heap.size w w') : RowM w' g ms := World.rowIs.of_block h (hb.block g (World.rowIs.lt h))
theorem RowM.kept {w w' : World} {g : Nat} {ms : List Mv} (h : RowM w g ms) {o : Option Nat} (hg : w.grownBy w' o) (hne : some g ≠ o) : RowM w' g ms := World.rowIs.of_block h (hg.block g (World.rowIs.lt h) hne)
theorem toMoveS_any (v : Value) (ms : List Mv) (w : World) (h : ReadsM w v ms) (hl : ms.length ≤ 1048576) :
    Calls Try.prog 41 #[v] w fun e w' => e = .returned (.slice (some ⟨w.heap.size, 0, none⟩) ms.length ms.length) ∧ RowM w' w.heap.size ms ∧ Below w.heap.size w w' := by
  obtain ⟨ao, c, rfl, hc1, hm, h⟩ := h
  unfold maxLen at hm
  have hmk := run_make_moves ms.length hl w
  have hr0 := made_moves w ms ms.length
  have hB0 : Below w.heap.size w (w.alloc (.cells (madeCells #[.int .i64 0, .int .i64 0, .int .i64 0] (ms.length * 3)) 38)) := (Below.refl _ _).alloc (Nat.le_refl _) _
  have HC := hid h
  have HR0 := hid hr0
  have HB0 := hid hB0
  clear h hr0 hB0
  go_enter Try.func41, Try.ntmps41
  go_wp2_with fail
  go_loopw [4] (fun i wr => ∃ k : Nat, k ≤ ms.length ∧ i = .int .i64 k ∧ wr.rowIs w.heap.size 38 (ms.length * 3) (mvF ms k) ∧ Below w.heap.size w wr) (fun i _ => ms.length - (intOf i).toNat)
  case atStart => exact ⟨0, Nat.zero_le _, rfl, HR0.out, HB0.out⟩
  case round =>
    obtain ⟨k, hk, rfl, hrow, hbel⟩ := hrel
    have HR := hid hrow
    have HB := hid hbel
    by_cases hlt : k < ms.length
    · rcases HC.out with h | ⟨b, off, rfl, hb, hc⟩
      · rw [h] at hlt; simp at hlt
      obtain ⟨e0, e1, e2⟩ := hc k hlt
      have hc0 := (hbel.cell (p := ⟨b, off + k * 3, none⟩) (by exact hb)).trans e0
      have hc1' := (hbel.cell (p := ⟨b, off + k * 3 + 1, none⟩) (by exact hb)).trans e1
      have hc2 := (hbel.cell (p := ⟨b, off + k * 3 + 2, none⟩) (by exact hb)).trans e2
      have HK := hid (show ms[k] = mGet ms k from (mGet_at hlt).symm)
      obtain ⟨m, hm⟩ : ∃ m, m = ms[k] := ⟨_, rfl⟩
      rw [← hm] at hc0 hc1' hc2 HK
      obtain ⟨x, y, z⟩ := m
      simp only at hc0 hc1' hc2
      have hsz := World.rowIs.lt hrow
      clear e0 e1 e2 hc hm hrow hbel
      go_wp2_with (first | (go_at_call 29; refine (toMove_any x y z _).mono ?_; rintro e w1 ⟨rfl, hb1⟩; have HB1 := hid hb1; have HR1 := hid (World.rowIs.of_block HR.out (hb1.block _ hsz)); have hf0 := HR1.out.frozen (k * 3); have hf1 := HR1.out.frozen (k * 3 + 1); have hf2 := HR1.out.frozen (k * 3 + 2); have hy0 := HR1.out.cell (i := k * 3) (by omega); have hy1 := HR1.out.cell (i := k * 3 + 1) (by omega); have hy2 := HR1.out.cell (i := k * 3 + 2) (by omega); clear hb1) | fail)
      have HS := hid (mvF_succ HR1.out HK.out)
      have HBB := hid ((((HB.out.trans (HB1.out.mono HB.out.size)).setCell (p := ⟨w.heap.size, k * 3, none⟩) (Nat.le_refl _) (.int .i64 x)).setCell (p := ⟨w.heap.size, k * 3 + 1, none⟩) (Nat.le_refl _) (.int .i64 y)).setCell (p := ⟨w.heap.size, k * 3 + 2, none⟩) (Nat.le_refl _) (.int .i64 z))
      clear hf0 hf1 hf2 hy0 hy1 hy2
      go_roundw
      case rel => exact ⟨k + 1, by omega, by go_num, HS.out, HBB.out⟩
      case measure => simp [intOf]; omega
    · obtain rfl : k = ms.length := by omega
      clear hrow hbel
      go_wp2_with fail
      go_ret
      exact ⟨rfl, HR.out, HB.out⟩
theorem gb_set (W : World) (b k : Nat) (v : Value) : W.grownBy (W.setCell ⟨b, k, none⟩ v) (some b) :=
  ⟨rfl, rfl, rfl, by simp, fun i _ hne => Below.heap_setCell _ _ _ i (fun e => hne (by rw [e]))⟩
theorem szMoveS_any (v : Value) (ms : List Mv) (left : Int) (w : World) (h : ReadsM w v ms) (h0 : 0 ≤ left) (h1 : left ≤ 1048576) :
    Calls Try.prog 38 #[v, .int .i64 left] w fun e w' => e = .returned (.int .i64 (if left < ms.length then -1 else left - ms.length)) ∧ w = w' := by
  obtain ⟨ao, c, rfl, hc1, hm, h⟩ := h
  unfold maxLen at hm
  clear h
  have hw : IntKind.i64.wrap (left - (ms.length : Int)) = left - (ms.length : Int) := IntWalk.i64_in _ (by omega)
  by_cases hl : left < ms.length
  · have hl2 : left - (ms.length : Int) < 0 := by omega
    have HL := hid (show (-1 : Int) = (if left < ms.length then -1 else left - (ms.length : Int)) by rw [if_pos hl])
    go_enter Try.func38, Try.ntmps38
    go_wp2_with fail
    go_ret
    exact ⟨rfl, rfl⟩
  · have hl2 : ¬ left - (ms.length : Int) < 0 := by omega
    have HL := hid (show left - (ms.length : Int) = (if left < ms.length then -1 else left - (ms.length : Int)) by rw [if_neg hl])
    go_enter Try.func38, Try.ntmps38
    go_wp2_with fail
    go_ret
    exact ⟨rfl, rfl⟩
theorem eqMove_any (k i j : Int) (w : World) :
    Calls Try.prog 96 #[mvA k i j, mvA k i j] w fun e w' => e = .returned (.bool true) ∧ Below w.heap.size w w' := by
  have hk : (k != k) = false := by simp
  have hi : (i != i) = false := by simp
  have hj : (j != j) = false := by simp
  have HB := hid (((Below.refl w.heap.size w).alloc (Nat.le_refl _) (mvObj k i j)).alloc (sz_al (Nat.le_refl _) _) (mvObj k i j))
  go_enter Try.func96, Try.ntmps96
  go_wp2_with fail
  go_returns
  exact ⟨rfl, HB.out⟩
set_option maxHeartbeats 1000000 in
theorem eqMoveS_any (v u : Value) (ms : List Mv) (w : World) (h : ReadsM w v ms) (h' : ReadsM w u ms) :
    Calls Try.prog 44 #[v, u] w fun e w' => e = .returned (.bool true) ∧ Below w.heap.size w w' := by
  obtain ⟨ao, c, rfl, hc1, hm, h⟩ := h
  obtain ⟨bo, d, rfl, hd1, hn, h'⟩ := h'
  unfold maxLen at hm hn
  have hne : ((ms.length : Int) != (ms.length : Int)) = false := by simp
  rcases h with h | ⟨b, off, rfl, hb, hc⟩
  · subst h
    go_enter Try.func44, Try.ntmps44
    go_wp2_with fail
    refine wp_loop_rounds 1 ?_
    rw [rounds_succ]
    go_wp2_with fail
    go_ret
    exact ⟨rfl, Below.refl _ _⟩
  · rcases h' with h' | ⟨b', off', rfl, hb', hc'⟩
    · subst h'
      go_enter Try.func44, Try.ntmps44
      go_wp2_with fail
      refine wp_loop_rounds 1 ?_
      rw [rounds_succ]
      go_wp2_with fail
      go_ret
      exact ⟨rfl, Below.refl _ _⟩
    · have HC := hid hc
      have HC' := hid hc'
      clear hc hc'
      go_enter Try.func44, Try.ntmps44
      go_wp2_with fail
      go_loopw [5] (fun i wr => ∃ k : Nat, k ≤ ms.length ∧ i = .int .i64 k ∧ Below w.heap.size w wr) (fun i _ => ms.length - (intOf i).toNat)
      case atStart => exact ⟨0, Nat.zero_le _, rfl, Below.refl _ _⟩
      case round =>
        obtain ⟨k, hk, rfl, hbel⟩ := hrel
        have HB := hid hbel
        by_cases hlt : k < ms.length
        · obtain ⟨e0, e1, e2⟩ := HC.out k hlt
          obtain ⟨f0, f1, f2⟩ := HC'.out k hlt
          have hx0 := (hbel.cell (p := ⟨b, off + k * 3, none⟩) (by exact hb)).trans e0
          have hx1 := (hbel.cell (p := ⟨b, off + k * 3 + 1, none⟩) (by exact hb)).trans e1
          have hx2 := (hbel.cell (p := ⟨b, off + k * 3 + 2, none⟩) (by exact hb)).trans e2
          have hy0 := (hbel.cell (p := ⟨b', off' + k * 3, none⟩) (by exact hb')).trans f0
          have hy1 := (hbel.cell (p := ⟨b', off' + k * 3 + 1, none⟩) (by exact hb')).trans f1
          have hy2 := (hbel.cell (p := ⟨b', off' + k * 3 + 2, none⟩) (by exact hb')).trans f2
          obtain ⟨m, hm⟩ : ∃ m, m = ms[k] := ⟨_, rfl⟩
          rw [← hm] at hx0 hx1 hx2 hy0 hy1 hy2
          obtain ⟨x, y, z⟩ := m
          simp only at hx0 hx1 hx2 hy0 hy1 hy2
          have hk0 : (0 : Int) ≤ (k : Int) := by omega
          have hk1 : (k : Int) < (ms.length : Int) := by omega
          clear e0 e1 e2 f0 f1 f2 hm hbel
          go_wp2_with fail
          go_region_held3 (fun w' => w'.cell? ⟨b, off + k * 3, none⟩ = some (.int .i64 x) ∧ w'.cell? ⟨b, off + k * 3 + 1, none⟩ = some (.int .i64 y) ∧ w'.cell? ⟨b, off + k * 3 + 2, none⟩ = some (.int .i64 z) ∧ w'.cell? ⟨b', off' + k * 3, none⟩ = some (.int .i64 x) ∧ w'.cell? ⟨b', off' + k * 3 + 1, none⟩ = some (.int .i64 y) ∧ w'.cell? ⟨b', off' + k * 3 + 2, none⟩ = some (.int .i64 z))
            (first | exact ⟨hx0, hx1, hx2, hy0, hy1, hy2⟩ | exact ⟨cell_below2 hx0 HB1.out, cell_below2 hx1 HB1.out, cell_below2 hx2 HB1.out, cell_below2 hy0 HB1.out, cell_below2 hy1 HB1.out, cell_below2 hy2 HB1.out⟩ | go_keep | fail)
            (first | (go_at_call 96; refine (eqMove_any x y z _).mono ?_; rintro e w1 ⟨rfl, hb1⟩; have HB1 := hid ((Below.refl _ _).drew.trans hb1 : Below wr.heap.size wr w1); clear hb1) | fail)
          all_goals
            go_wp2_with fail
            go_roundw
            case rel => exact ⟨k + 1, by omega, by go_num, Below_chain HB.out HB1.out⟩
            case measure => simp [intOf]; omega
        · go_wp2_with fail
          go_ret
          exact ⟨rfl, HB.out⟩
set_option maxHeartbeats 1000000 in
theorem markMoveS_any (g : Nat) (ms : List Mv) (m : Int) (w : World) (h : RowM w g ms) (hl : ms.length ≤ 1048576) (h0 : 0 ≤ m) (h1 : m ≤ 1099511627776) :
    Calls Try.prog 48 #[.slice (some ⟨g, 0, none⟩) ms.length ms.length, .int .i64 m] w fun e w' => e = .returned (.int .i64 (m + 3 * ms.length)) ∧ w.grownBy w' (some g) := by
  have HR0 := hid (show ∃ f, w.rowIs g 38 (ms.length * 3) f from ⟨_, h⟩)
  have HG0 := hid (World.grownBy.refl w (some g))
  clear h
  go_enter Try.func48, Try.ntmps48
  go_wp2_with fail
  go_loopw [1, 5] (fun a i wr => ∃ k : Nat, k ≤ ms.length ∧ i = .int .i64 k ∧ a = .int .i64 (m + 3 * k) ∧ (∃ f, wr.rowIs g 38 (ms.length * 3) f) ∧ w.grownBy wr (some g)) (fun _ i _ => ms.length - (intOf i).toNat)
  case atStart => exact ⟨0, Nat.zero_le _, rfl, by simp, HR0.out, HG0.out⟩
  case round =>
    obtain ⟨k, hk, rfl, rfl, ⟨f, hrow⟩, hgr⟩ := hrel
    have HR := hid hrow
    have HG := hid hgr
    by_cases hlt : k < ms.length
    · have hf0 := hrow.frozen (k * 3)
      have hf1 := hrow.frozen (k * 3 + 1)
      have hf2 := hrow.frozen (k * 3 + 2)
      have hy0 := hrow.cell (i := k * 3) (by omega)
      have hy1 := hrow.cell (i := k * 3 + 1) (by omega)
      have hy2 := hrow.cell (i := k * 3 + 2) (by omega)
      have hw1 : IntKind.i64.wrap (m + 3 * (k : Int) + 1) = m + 3 * (k : Int) + 1 := IntWalk.i64_in _ (by omega)
      have hw2 : IntKind.i64.wrap (m + 3 * (k : Int) + 1 + 1) = m + 3 * (k : Int) + 1 + 1 := IntWalk.i64_in _ (by omega)
      have hw3 : IntKind.i64.wrap (m + 3 * (k : Int) + 1 + 1 + 1) = m + 3 * (k : Int) + 1 + 1 + 1 := IntWalk.i64_in _ (by omega)
      clear hrow hgr
      go_wp2_with fail
      have HS := hid (((HR.out.set (k * 3) (.int .i64 (m + 3 * (k : Int)))).set (k * 3 + 1) (.int .i64 (m + 3 * (k : Int) + 1))).set (k * 3 + 2) (.int .i64 (m + 3 * (k : Int) + 1 + 1)))
      have HGG := hid (((HG.out.trans (gb_set wr g (k * 3) (.int .i64 (m + 3 * (k : Int))))).trans (gb_set _ g (k * 3 + 1) (.int .i64 (m + 3 * (k : Int) + 1)))).trans (gb_set _ g (k * 3 + 2) (.int .i64 (m + 3 * (k : Int) + 1 + 1))))
      clear hf0 hf1 hf2 hy0 hy1 hy2
      go_roundw
      case rel => exact ⟨k + 1, by omega, by go_num, by go_num, ⟨_, HS.out⟩, HGG.out⟩
      case measure => simp [intOf]; omega
    · obtain rfl : k = ms.length := by omega
      clear hrow hgr
      go_wp2_with fail
      go_ret
      exact ⟨rfl, HG.out⟩
end Go.Proofs.Yteenmndgejeihaa
