/- Contracts: brTaps, areTaps; brRegister, registerWord. Conditions: slices that are not nil and read as lists of at most 2^20 numbers. -/
import Derived.Test.YtaajfpjekfmddabRgM
import Derived.Test.YtaajfpjekfmddabBn1
import Derived.Test.YtaajfpjekfmddabBs1
import Derived.Test.YtaajfpjekfmddabEnd0
namespace Go.Proofs.Ytaajfpjekfmddab
open Go.RowKit
set_option linter.unusedVariables false
set_option maxRecDepth 4000

theorem xor_bits (a b : Int) (ha : a = 0 ∨ a = 1) (hb : b = 0 ∨ b = 1) : bits .xor .i64 a b = (a + b) % 2 := by
  rcases ha with rfl | rfl <;> rcases hb with rfl | rfl <;> rfl
theorem tapsB_ok {ts : List Int} {n : Nat} (h : tapsB ts (n : Int) = true) : TapsOk ts n := by
  unfold tapsB at h
  simp only [Bool.and_eq_true, inB_iff, decide_eq_true_eq] at h
  obtain ⟨⟨h1, h2⟩, h3, h4, h5⟩ := h
  have h6 := rise_low h5
  have h7 : ∀ i, i < ts.length → ts.getD i 0 ≤ (n : Int) - 1 := fun i hi => by
    have h8 := (allTo_iff _ _).1 h5 i hi
    simp only [riseAt, Bool.and_eq_true, inB_iff] at h8
    omega
  refine ⟨by omega, by omega, by omega, ?_, h4, fun t ht => ⟨by have := h6 t ht; omega, h7 t ht⟩⟩
  have := h6 (ts.length - 1) (by omega)
  have := h7 (ts.length - 1) (by omega)
  omega
/-- the row of the start -/
theorem start_row {w : World} {g n m : Nat} (hm : n = m + 1) (h : w.rowIs g 3 n (fun _ => .int .i64 0)) (ts : List Int) : (w.setCell ⟨g, m, none⟩ (.int .i64 1)).rowIs g 3 n (fun i => .int .i64 ((regT ts n 0).getD i 0)) := by
  refine (h.set m (.int .i64 1)).congr (fun i hi => ?_)
  by_cases e : i = m
  · subst e
    rw [if_pos rfl, regT, List.getD_eq_getElem?_getD, List.getElem?_append_right (by simp; omega)]
    simp [show i - (n - 1) = 0 by omega]
  · rw [if_neg e, regT, List.getD_eq_getElem?_getD, List.getElem?_append_left (by simp; omega)]
    simp [List.getElem?_replicate]
    split <;> rfl
theorem reg_take (ts : List Int) {n : Nat} (h : 1 ≤ n) (j : Nat) : (regT ts n j).take n = regW ts n 0 := by
  refine getD_ext (by rw [List.length_take, regT_len ts h, regW_len ts h]; omega) (fun i hi => ?_)
  have hi2 : i < n := by simp at hi; omega
  rw [regW_at ts h hi2, Nat.zero_add, ← regT_at ts h (i := i) (j := j) (by omega)]
  simp [List.getD_eq_getElem?_getD, hi2]
theorem per_goes {ts : List Int} {n : Nat} (j : Nat) (h : NotYet ts n j) (hj : j < 2 ^ n) : perN ts n = perF ts n (j + 1) (2 ^ n - j) := by
  induction j with
  | zero => rfl
  | succ j ih =>
    rw [ih (fun i h1 h2 => h i h1 (by omega)) (by omega), perF_no (h (j + 1) (by omega) (Nat.le_refl _)) (by omega)]
    congr 1
def sliceLen : Value → Nat
  | .slice _ n _ => n
  | _ => 0
theorem registerWord_any (v : Value) (ts : List Int) (n : Nat) (w : World) (h : Sits w v ts) (hT : TapsOk ts n) :
    Calls Try.prog 68 #[v, .int .i64 (n : Int)] w fun e w' => ∃ u, e = .returned u ∧ OwnE w' w.heap.size u (regR ts n) ∧ Below w.heap.size w w' := by
  obtain ⟨b, off, c, rfl, hc1, hm, hb, hc⟩ := h
  obtain ⟨i0, hi, hz0, hz1, hz2⟩ := info_parts Try.info3
  have HC := hid hc
  clear hc
  have HT := hid hT
  obtain ⟨hn1, hn2, ht1, ht2, _, hin⟩ := hT
  have HIN := hid hin
  clear hin
  obtain ⟨m, hm0⟩ : ∃ m, n = m + 1 := ⟨n - 1, by omega⟩
  have hnm : (n : Int) - 1 = (m : Int) := by omega
  have hmk := run_make_ints n (by omega) w
  have hr0 : (w.alloc (.cells (madeCells #[.int .i64 0] n) 3)).rowIs w.heap.size 3 n (fun _ => .int .i64 0) := World.rowIs_made w (.int .i64 0) n 3
  have HS := hid (Own.of_rowIs (start_row hm0 hr0 ts) (by rw [regT_len ts hn1]; rfl) (by unfold maxLen; omega))
  have hcz := hr0.cell (i := m) (by omega)
  have hfz := hr0.frozen m
  have HB0 := hid (((Below.refl w.heap.size w).alloc (Nat.le_refl _) (.cells (madeCells #[.int .i64 0] n) 3)).setCell (p := ⟨w.heap.size, m, none⟩) (Nat.le_refl _) (.int .i64 1))
  have hmn : (m : Int) < (n : Int) := by omega
  clear hr0 hm0
  go_enter Try.func68, Try.ntmps68
  go_wp2_with fail
  clear hmk
  obtain ⟨wm, hwm⟩ : ∃ wm, wm = (w.alloc (.cells (madeCells #[.int .i64 0] n) 3)).setCell ⟨w.heap.size, m, none⟩ (.int .i64 1) := ⟨_, rfl⟩
  have hwm2 : w.alloc (.cells ((madeCells #[.int .i64 0] n).setIfInBounds m (.int .i64 1)) 3) = wm := by rw [hwm]; go_simp
  rw [← hwm] at HS HB0
  rw [hwm2]
  clear hwm hwm2 hcz hfz
  go_loopw [5, 6, 8, 9] (fun wp _ _ _ wr => ∃ (j g c : Nat), wp = .slice (some ⟨g, 0, none⟩) (n + j) c ∧ Own wr w.heap.size (.slice (some ⟨g, 0, none⟩) (n + j) c) (regT ts n j) ∧ NotYet ts n j ∧ Below w.heap.size w wr) (fun wp _ _ _ _ => 2000 - sliceLen wp)
  case atStart => exact ⟨0, _, _, rfl, HS.out, fun i h1 h2 => by omega, HB0.out⟩
  case round =>
    obtain ⟨j, g, cc, rfl, hown, hny, hbel⟩ := hrel
    have HO := hid hown
    have HNY := hid hny
    have HB := hid hbel
    have hj1 : j < 1024 := Nat.lt_of_lt_of_le (notYet_lt HT.out hny) (Nat.pow_le_pow_right (by omega) hn2)
    obtain ⟨N, hN⟩ : ∃ N : Nat, N = n + j := ⟨_, rfl⟩
    have hNj : (N : Int) - (n : Int) = (j : Int) := by omega
    have hNn : N ≤ 1048576 := by omega
    have HN := hid hN
    rw [← hN] at HO ⊢
    obtain ⟨L, hL⟩ : ∃ L, L = regT ts n j := ⟨_, rfl⟩
    have HL := hid hL
    rw [← hL] at HO
    obtain ⟨o1, o2, o3, o4, o5, o6, o7⟩ := Own_cells HO.out
    have HCW := hid o6
    have HO1 := hid o1
    clear hown hny hbel hL hN o1 o6 o7
    go_wp2_with fail
    go_loopw [6, 8, 18] (fun lp _ i wi => ∃ t : Nat, i = .int .i64 (t : Int) ∧ t ≤ ts.length ∧ lp = .int .i64 (xorL ts L j t) ∧ wi = wr) (fun _ _ i _ => ts.length - (intOf i).toNat)
    case atStart => exact ⟨0, rfl, Nat.zero_le _, rfl, rfl⟩
    case round =>
      obtain ⟨t, rfl, ht, rfl, rfl⟩ := hrel
      by_cases hlt : t < ts.length
      · have hcx : wr.cell? ⟨b, off + t, none⟩ = some (.int .i64 ts[t]) := (HB.out.cell (by exact hb)).trans (HC.out t hlt)
        have hi3 := HIN.out t hlt
        rw [getD_at hlt] at hi3
        obtain ⟨q, hq⟩ : ∃ q : Nat, ts[t] = (q : Int) := ⟨(ts[t]).toNat, by omega⟩
        rw [hq] at hcx hi3
        obtain ⟨p, hp⟩ : ∃ p : Nat, p = j + q := ⟨_, rfl⟩
        have hpj : (j : Int) + (q : Int) = (p : Int) := by omega
        have hpN : p < L.length := by have := HO1.out; have := HN.out; omega
        have hpN2 : (p : Int) < (N : Int) := by have := HN.out; omega
        have hcp := HCW.out p hpN
        have HX := hid (show xorL ts L j (t + 1) = (xorL ts L j t + L[p]) % 2 by rw [xorL, getD_at hlt, hq, Int.toNat_natCast, ← hp, getD_at hpN])
        have x1 := xorL_bit ts L j t
        have x2 : L[p] = 0 ∨ L[p] = 1 := by
          have := regT_bits ts n j
          rw [← HL.out] at this
          rw [← getD_at hpN]
          exact this p hpN
        obtain ⟨y, hy⟩ : ∃ y, y = L[p] := ⟨_, rfl⟩
        rw [← hy] at hcp HX x2
        obtain ⟨x, hx⟩ : ∃ x, x = xorL ts L j t := ⟨_, rfl⟩
        rw [← hx] at HX x1 ⊢
        have hxx := xor_bits x y x1 x2
        clear hq hp hy hx x1 x2
        go_wp2_with fail
        go_roundw
        case rel => exact ⟨t + 1, by go_num, by omega, by rw [HX.out, ← hxx], trivial⟩
        case measure => simp [intOf]; omega
      · obtain rfl : t = ts.length := by omega
        have HXB := hid (xorL_bit ts L j ts.length)
        have HNX := hid (show regT ts n (j + 1) = L ++ [xorL ts L j ts.length] by rw [regT, ← HL.out])
        obtain ⟨x, hx⟩ : ∃ x, x = xorL ts L j ts.length := ⟨_, rfl⟩
        rw [← hx] at HNX ⊢
        have hN1 : ((N : Int) + 1) - (n : Int) = ((j + 1 : Nat) : Int) := by omega
        obtain ⟨j1, hj0⟩ : ∃ j1, j1 = j + 1 := ⟨_, rfl⟩
        rw [← hj0] at hN1 HNX
        obtain ⟨N1, hN0⟩ : ∃ N1, N1 = N + 1 := ⟨_, rfl⟩
        have hN2 : (N : Int) + 1 = (N1 : Int) := by omega
        have HJ0 := hid hj0
        have HN0 := hid hN0
        have hb1 : (j1 : Int) ≤ (N1 : Int) := by have := HN.out; omega
        have hb2 : (n : Int) ≤ (N1 : Int) := by have := HN.out; omega
        have hb3 : (0 : Int) ≤ (j1 : Int) := by omega
        have hb4 : (0 : Int) ≤ (n : Int) := by omega
        rw [hN2] at hN1
        clear hx hj0 hN0
        go_wp2_with (first
          | (at_builtin; (refine wpList_push _ rfl _ _ 22 rfl w.heap.size i0 Try.underlying22 hi hz0 hz1 hz2 (some ⟨g, 0, none⟩) N cc L rfl HO.out x wr.heap.size rfl rfl hNn HB.out.size ?_); (intro g5 c5 w5 hp5); (have HO5 := hid (show Own w5 w.heap.size (.slice (some ⟨g5, 0, none⟩) N1 c5) (regT ts n j1) by rw [HNX.out, HN0.out]; exact hp5.own)); (have HB5 := hid (hp5.below w rfl HB.out)); (clear hp5); (rw [← HN0.out]))
          | fail)
        obtain ⟨p1, p2, p3, p4, p5, p6, p7⟩ := Own_cells HO5.out
        have HLX := hid (regT_len ts hn1 j1)
        have hN1j : N1 - j1 = n := by have := HLX.out; omega
        have hcj : ¬ c5 = j1 := by omega
        have hjN : (j1 : Int) ≤ (N1 : Int) := by omega
        have HP := hid (show Sits w5 (.slice (some ⟨g5, j1, none⟩) n (c5 - j1)) (regW ts n j1) by
          have := Sits_drop (w := w5) (b := g5) (off := 0) (c := c5) (xs := regT ts n j1) j1 (by omega) p2 p3 p4 (fun i hi => by rw [Nat.zero_add]; exact p6 i hi)
          rw [Nat.zero_add, ← p1, hN1j] at this
          exact this)
        have HQ := hid (show Sits w5 (.slice (some ⟨g5, 0, none⟩) n c5) (regW ts n 0) by
          have := Sits_take (w := w5) (b := g5) (off := 0) (c := c5) (xs := regT ts n j1) n (by omega) p2 p3 p4 (fun i hi => by rw [Nat.zero_add]; exact p6 i hi)
          rw [reg_take ts hn1 j1] at this
          exact this)
        have hNc : (N1 : Int) ≤ (c5 : Int) := by omega
        have hnc : (n : Int) ≤ (c5 : Int) := by omega
        clear p1 p2 p6 p7
        have HPD := hid (HP.out.below (Below.refl w5.heap.size w5).drew)
        have HQD := hid (HQ.out.below (Below.refl w5.heap.size w5).drew)
        have HB6 := hid (HB5.out.drew)
        have HLE := hid (show (regT ts n j1).length = N1 by have := HLX.out; have := HN0.out; have := HN.out; have := HJ0.out; omega)
        by_cases hhit : regW ts n j1 = regW ts n 0
        · have HE := hid (decide_eq_true hhit)
          have HR := hid (show regR ts n = (regT ts n j1).take j1 by
            have hp : perN ts n = j1 := by
              have hl := notYet_lt HT.out HNY.out
              rw [per_goes j HNY.out hl, ← HJ0.out]
              exact perF_yes hhit (by omega)
            rw [regR, hp])
          clear hhit
          go_region_held3 (fun w' => Below w.heap.size w w')
            (first | exact HB6.out | exact HB7.out | go_keep | fail)
            (first
              | (go_at_call 95; (refine (Equal_any _ _ _ _ _ HPD.out.reads HQD.out.reads).mono ?_); (rintro e w6 ⟨rfl, hb6⟩); (rw [HE.out]); (have HB7 := hid (HB6.out.trans (hb6.mono HB6.out.size))); (have HO7 := hid (HO5.out.below ((Below.refl w5.heap.size w5).drew.trans hb6))); (clear hb6))
              | fail)
          all_goals
            have HCUT := hid (HO7.out.cut j1 (by rw [HLE.out]; omega))
            go_wp2_with (first | (go_at_call 96; (refine (ended_any w.heap.size _ _ _ HCUT.out).mono ?_); (rintro e w8 ⟨r, rfl, he, _, rfl⟩); (have HE8 := hid he); (clear he)) | fail)
            go_ret
            exact ⟨_, rfl, by rw [HR.out]; exact HE8.out, HB7.out⟩
        · have HE := hid (decide_eq_false hhit)
          have HNX := hid (show NotYet ts n j1 from fun i h1 h2 => by
            by_cases e : i = j1
            · rw [e]; exact hhit
            · exact HNY.out i h1 (by have := HJ0.out; omega))
          clear hhit
          go_region_held3 (fun w' => Below w.heap.size w w')
            (first | exact HB6.out | exact HB7.out | go_keep | fail)
            (first
              | (go_at_call 95; (refine (Equal_any _ _ _ _ _ HPD.out.reads HQD.out.reads).mono ?_); (rintro e w6 ⟨rfl, hb6⟩); (rw [HE.out]); (have HB7 := hid (HB6.out.trans (hb6.mono HB6.out.size))); (have HO7 := hid (HO5.out.below ((Below.refl w5.heap.size w5).drew.trans hb6))); (clear hb6))
              | fail)
          all_goals
            go_wp2_with fail
            go_roundw
            case rel => exact ⟨j1, g5, c5, by have := HN0.out; have := HN.out; have := HJ0.out; rw [show n + j1 = N1 by omega], by have := HN0.out; have := HN.out; have := HJ0.out; rw [show n + j1 = N1 by omega]; exact HO7.out, HNX.out, HB7.out⟩
            case measure => simp only [sliceLen]; have := HN0.out; have := HN.out; omega
theorem reg_cut {w : World} {B g N1 c n j : Nat} {ts : List Int} (h : Own w B (.slice (some ⟨g, 0, none⟩) N1 c) (regT ts n j)) (hn : 1 ≤ n) (hN : N1 = n + j) :
    ¬ c = j ∧ (N1 : Int) ≤ (c : Int) ∧ (c : Int) ≤ 9223372036854775807 ∧ Hid (Sits w (.slice (some ⟨g, j, none⟩) n (c - j)) (regW ts n j)) := by
  obtain ⟨p1, p2, p3, p4, p5, p6, p7⟩ := Own_cells h
  refine ⟨by omega, by omega, by omega, hid ?_⟩
  have := Sits_drop (w := w) (b := g) (off := 0) (c := c) (xs := regT ts n j) j (by omega) p2 p3 p4 (fun i hi => by rw [Nat.zero_add]; exact p6 i hi)
  rw [Nat.zero_add, ← p1, show N1 - j = n by omega] at this
  exact this
theorem brNumber2_any (v : Value) (ys : List Int) (z n : Nat) (w : World) (h : Reads w v ys) (hb : belK 2 ys) (hl : ys.length = n) (hp : n ≤ 10) (hz : numN 2 ys ys.length = z) :
    Calls Try.prog 79 #[v, .int .i64 2] w fun e w' => e = .returned (.int .i64 (z : Int)) ∧ w = w' := by
  have h1 := brNumber_any v ys 2 w h hb (by omega) (by omega) (by rw [hl]; exact Nat.pow_le_pow_right (by omega) hp)
  rw [hz] at h1
  exact h1
theorem brRegister_any (v : Value) (ts : List Int) (n : Nat) (w : World) (h : Sits w v ts) (hT : TapsOk ts n) :
    Calls Try.prog 66 #[v, .int .i64 (n : Int)] w fun e w' => ∃ u, e = .returned u ∧ Own w' w.heap.size u (regR ts n) ∧ Below w.heap.size w w' := by
  obtain ⟨b, off, c, rfl, hc1, hm, hb, hc⟩ := h
  obtain ⟨i0, hi, hz0, hz1, hz2⟩ := info_parts Try.info3
  have HC := hid hc
  clear hc
  have HT := hid hT
  obtain ⟨hn1, hn2, ht1, ht2, _, hin⟩ := hT
  have HIN := hid hin
  clear hin
  obtain ⟨m, hm0⟩ : ∃ m, n = m + 1 := ⟨n - 1, by omega⟩
  have hnm : (n : Int) - 1 = (m : Int) := by omega
  have hmk := run_make_ints n (by omega) w
  have hr0 : (w.alloc (.cells (madeCells #[.int .i64 0] n) 3)).rowIs w.heap.size 3 n (fun _ => .int .i64 0) := World.rowIs_made w (.int .i64 0) n 3
  have HS := hid (Own.of_rowIs (start_row hm0 hr0 ts) (by rw [regT_len ts hn1]; rfl) (by unfold maxLen; omega))
  have hcz := hr0.cell (i := m) (by omega)
  have hfz := hr0.frozen m
  have HB0 := hid (((Below.refl w.heap.size w).alloc (Nat.le_refl _) (.cells (madeCells #[.int .i64 0] n) 3)).setCell (p := ⟨w.heap.size, m, none⟩) (Nat.le_refl _) (.int .i64 1))
  have hmn : (m : Int) < (n : Int) := by omega
  clear hr0 hm0
  go_enter Try.func66, Try.ntmps66
  go_wp2_with fail
  clear hmk
  obtain ⟨wm, hwm⟩ : ∃ wm, wm = (w.alloc (.cells (madeCells #[.int .i64 0] n) 3)).setCell ⟨w.heap.size, m, none⟩ (.int .i64 1) := ⟨_, rfl⟩
  have hwm2 : w.alloc (.cells ((madeCells #[.int .i64 0] n).setIfInBounds m (.int .i64 1)) 3) = wm := by rw [hwm]; go_simp
  rw [← hwm] at HS HB0
  rw [hwm2]
  clear hwm hwm2 hcz hfz
  go_loopw [5, 6, 8] (fun wp _ _ wr => ∃ (j g c : Nat), wp = .slice (some ⟨g, 0, none⟩) (n + j) c ∧ Own wr w.heap.size (.slice (some ⟨g, 0, none⟩) (n + j) c) (regT ts n j) ∧ NotYet ts n j ∧ Below w.heap.size w wr) (fun wp _ _ _ => 2000 - sliceLen wp)
  case atStart => exact ⟨0, _, _, rfl, HS.out, fun i h1 h2 => by omega, HB0.out⟩
  case round =>
    obtain ⟨j, g, cc, rfl, hown, hny, hbel⟩ := hrel
    have HO := hid hown
    have HNY := hid hny
    have HB := hid hbel
    have hj1 : j < 1024 := Nat.lt_of_lt_of_le (notYet_lt HT.out hny) (Nat.pow_le_pow_right (by omega) hn2)
    obtain ⟨N, hN⟩ : ∃ N : Nat, N = n + j := ⟨_, rfl⟩
    have hNj : (N : Int) - (n : Int) = (j : Int) := by omega
    have hNn : N ≤ 1048576 := by omega
    have HN := hid hN
    rw [← hN] at HO ⊢
    obtain ⟨L, hL⟩ : ∃ L, L = regT ts n j := ⟨_, rfl⟩
    have HL := hid hL
    rw [← hL] at HO
    obtain ⟨o1, o2, o3, o4, o5, o6, o7⟩ := Own_cells HO.out
    have HCW := hid o6
    have HO1 := hid o1
    clear hown hny hbel hL hN o1 o6 o7
    go_wp2_with fail
    go_loopw [6, 8, 17] (fun lp _ i wi => ∃ t : Nat, i = .int .i64 (t : Int) ∧ t ≤ ts.length ∧ lp = .int .i64 (xorL ts L j t) ∧ wi = wr) (fun _ _ i _ => ts.length - (intOf i).toNat)
    case atStart => exact ⟨0, rfl, Nat.zero_le _, rfl, rfl⟩
    case round =>
      obtain ⟨t, rfl, ht, rfl, rfl⟩ := hrel
      by_cases hlt : t < ts.length
      · have hcx : wr.cell? ⟨b, off + t, none⟩ = some (.int .i64 ts[t]) := (HB.out.cell (by exact hb)).trans (HC.out t hlt)
        have hi3 := HIN.out t hlt
        rw [getD_at hlt] at hi3
        obtain ⟨q, hq⟩ : ∃ q : Nat, ts[t] = (q : Int) := ⟨(ts[t]).toNat, by omega⟩
        rw [hq] at hcx hi3
        obtain ⟨p, hp⟩ : ∃ p : Nat, p = j + q := ⟨_, rfl⟩
        have hpj : (j : Int) + (q : Int) = (p : Int) := by omega
        have hpN : p < L.length := by have := HO1.out; have := HN.out; omega
        have hpN2 : (p : Int) < (N : Int) := by have := HN.out; omega
        have hcp := HCW.out p hpN
        have HX := hid (show xorL ts L j (t + 1) = (xorL ts L j t + L[p]) % 2 by rw [xorL, getD_at hlt, hq, Int.toNat_natCast, ← hp, getD_at hpN])
        have x1 := xorL_bit ts L j t
        have x2 : L[p] = 0 ∨ L[p] = 1 := by
          have := regT_bits ts n j
          rw [← HL.out] at this
          rw [← getD_at hpN]
          exact this p hpN
        obtain ⟨y, hy⟩ : ∃ y, y = L[p] := ⟨_, rfl⟩
        rw [← hy] at hcp HX x2
        obtain ⟨x, hx⟩ : ∃ x, x = xorL ts L j t := ⟨_, rfl⟩
        rw [← hx] at HX x1 ⊢
        have hxx := xor_bits x y x1 x2
        clear hq hp hy hx x1 x2
        go_wp2_with fail
        go_roundw
        case rel => exact ⟨t + 1, by go_num, by omega, by rw [HX.out, ← hxx], trivial⟩
        case measure => simp [intOf]; omega
      · obtain rfl : t = ts.length := by omega
        have HXB := hid (xorL_bit ts L j ts.length)
        have HNX := hid (show regT ts n (j + 1) = L ++ [xorL ts L j ts.length] by rw [regT, ← HL.out])
        obtain ⟨x, hx⟩ : ∃ x, x = xorL ts L j ts.length := ⟨_, rfl⟩
        rw [← hx] at HNX ⊢
        have hN1 : ((N : Int) + 1) - (n : Int) = ((j + 1 : Nat) : Int) := by omega
        obtain ⟨j1, hj0⟩ : ∃ j1, j1 = j + 1 := ⟨_, rfl⟩
        rw [← hj0] at hN1 HNX
        obtain ⟨N1, hN0⟩ : ∃ N1, N1 = N + 1 := ⟨_, rfl⟩
        have hN2 : (N : Int) + 1 = (N1 : Int) := by omega
        have HJ0 := hid hj0
        have HN0 := hid hN0
        have hb1 : (j1 : Int) ≤ (N1 : Int) := by have := HN.out; omega
        have hb2 : (n : Int) ≤ (N1 : Int) := by have := HN.out; omega
        have hb3 : (0 : Int) ≤ (j1 : Int) := by omega
        have hb4 : (0 : Int) ≤ (n : Int) := by omega
        rw [hN2] at hN1
        clear hx hj0 hN0
        have HNJ := hid (show N1 = n + j1 by have := HN0.out; have := HN.out; have := HJ0.out; omega)
        have hN1j : N1 - j1 = n := by have := HNJ.out; omega
        have HLE := hid (show (regT ts n j1).length = N1 by rw [regT_len ts hn1]; have := HNJ.out; omega)
        have HWB := hid (regW_bel ts hn1 j1)
        have HWL := hid (regW_len ts hn1 j1)
        have HN1 := hid (num_one ts hn1 j1)
        have hnum := numN_lt HWB.out n (by rw [HWL.out]; exact Nat.le_refl _) (by omega)
        have hnum2 : numN 2 (regW ts n j1) n < 1024 := Nat.lt_of_lt_of_le hnum (Nat.pow_le_pow_right (by omega) hn2)
        obtain ⟨z, hz⟩ : ∃ z, z = numN 2 (regW ts n j1) n := ⟨_, rfl⟩
        have HZ := hid (show numN 2 (regW ts n j1) (regW ts n j1).length = z by rw [HWL.out, hz])
        rw [← hz] at hnum2 HN1
        clear hz hnum
        by_cases hhit : regW ts n j1 = regW ts n 0
        · have HR := hid (show regR ts n = (regT ts n j1).take j1 by
            have hp : perN ts n = j1 := by
              have hl := notYet_lt HT.out HNY.out
              rw [per_goes j HNY.out hl, ← HJ0.out]
              exact perF_yes hhit (by omega)
            rw [regR, hp])
          have hzy : z = 1 := HN1.out.2 hhit
          subst hzy
          clear hhit
          have HCL := hid (show ((regT ts n j1).take j1).length ≤ 1048576 by rw [List.length_take, HLE.out]; omega)
          have hjle : j1 ≤ (regT ts n j1).length := by rw [HLE.out]; omega
          have HJL := hid hjle
          clear hjle
          go_wp2_with (first
            | (at_builtin; (refine wpList_push _ rfl _ _ 22 rfl w.heap.size i0 Try.underlying22 hi hz0 hz1 hz2 (some ⟨g, 0, none⟩) N cc L rfl HO.out x wr.heap.size rfl rfl hNn HB.out.size ?_); (intro g5 c5 w5 hp5); (have HO5 := hid (show Own w5 w.heap.size (.slice (some ⟨g5, 0, none⟩) N1 c5) (regT ts n j1) by rw [HNX.out, HN0.out]; exact hp5.own)); (have HB5 := hid (hp5.below w rfl HB.out)); (clear hp5); (rw [← HN0.out]); (obtain ⟨hcj, hNc, hc63, HP⟩ := reg_cut HO5.out hn1 HNJ.out))
            | (go_at_call 79; (refine (brNumber2_any _ (regW ts n j1) _ n _ HP.out.reads HWB.out HWL.out hn2 HZ.out).mono ?_); (rintro e w6 ⟨rfl, rfl⟩))
            | (go_at_call 58; (refine (l1Own_any _ _ _ (HO5.out.cut j1 HJL.out).sits HCL.out).mono ?_); (rintro e w7 ⟨u, rfl, ho7, hb7, _⟩); (have HO7 := hid (ho7.mono HB5.out.size)); (have HB7 := hid (Below_chain HB5.out hb7)); (clear ho7 hb7))
            | fail)
          go_ret
          exact ⟨_, rfl, by rw [HR.out]; exact HO7.out, HB7.out⟩
        · have HNX2 := hid (show NotYet ts n j1 from fun i h1 h2 => by
            by_cases e : i = j1
            · rw [e]; exact hhit
            · exact HNY.out i h1 (by have := HJ0.out; omega))
          have hzn : ¬ z = 1 := fun e => hhit (HN1.out.1 e)
          have hzb : ((z : Int) == 1) = false := by simp; omega
          clear hhit
          go_wp2_with (first
            | (at_builtin; (refine wpList_push _ rfl _ _ 22 rfl w.heap.size i0 Try.underlying22 hi hz0 hz1 hz2 (some ⟨g, 0, none⟩) N cc L rfl HO.out x wr.heap.size rfl rfl hNn HB.out.size ?_); (intro g5 c5 w5 hp5); (have HO5 := hid (show Own w5 w.heap.size (.slice (some ⟨g5, 0, none⟩) N1 c5) (regT ts n j1) by rw [HNX.out, HN0.out]; exact hp5.own)); (have HB5 := hid (hp5.below w rfl HB.out)); (clear hp5); (rw [← HN0.out]); (obtain ⟨hcj, hNc, hc63, HP⟩ := reg_cut HO5.out hn1 HNJ.out))
            | (go_at_call 79; (refine (brNumber2_any _ (regW ts n j1) _ n _ HP.out.reads HWB.out HWL.out hn2 HZ.out).mono ?_); (rintro e w6 ⟨rfl, rfl⟩))
            | fail)
          go_roundw
          case rel => exact ⟨j1, g5, c5, by rw [← HNJ.out], by rw [← HNJ.out]; exact HO5.out, HNX2.out, HB5.out⟩
          case measure => simp only [sliceLen]; have := HN0.out; have := HN.out; omega
theorem tapsB_0 {ts : List Int} {n : Int} (h : inB n 1 10 = false) : tapsB ts n = false := by unfold tapsB; rw [h]; rfl
theorem tapsB_1 {ts : List Int} {n : Int} (h : ¬ 0 < ts.length) : tapsB ts n = false := by unfold tapsB; rw [decide_eq_false h, Bool.false_and, Bool.and_false]
theorem tapsB_2 {ts : List Int} {n : Int} (h : ¬ ts.getD 0 0 = 0) : tapsB ts n = false := by unfold tapsB; rw [decide_eq_false h, Bool.false_and, Bool.and_false, Bool.and_false]
theorem tapsB_3 {ts : List Int} {n : Int} (h : inB n 1 10 = true) (h1 : 0 < ts.length) (h2 : ts.getD 0 0 = 0) : tapsB ts n = risingB ts 0 (n - 1) := by unfold tapsB; rw [h, decide_eq_true h1, decide_eq_true h2]; rfl
theorem rise_len {ts : List Int} {n : Int} (h : risingB ts 0 (n - 1) = true) (hn : 1 ≤ n) : (ts.length : Int) ≤ n := by
  by_cases h0 : ts.length = 0
  · omega
  · have h6 := rise_low h (ts.length - 1) (by omega)
    have h8 := (allTo_iff _ _).1 h (ts.length - 1) (by omega)
    simp only [riseAt, Bool.and_eq_true, inB_iff] at h8
    omega
theorem comb_rise {ts : List Int} {n : Int} (h : inB n 1 10 = true) : combB n ts = risingB ts 0 (n - 1) := by
  have hn := inB_iff.1 h
  unfold combB
  rw [inB_iff.2 (show 0 ≤ n ∧ n ≤ 12 by omega), Bool.true_and]
  cases hr : risingB ts 0 (n - 1) with
  | false => rw [Bool.and_false]
  | true => rw [decide_eq_true (rise_len hr hn.1)]; rfl
theorem brTaps_any (v : Value) (ts : List Int) (n : Int) (w : World) (h : Sits w v ts) :
    Calls Try.prog 65 #[v, .int .i64 n] w fun e w' => e = .returned (.bool (tapsB ts n)) ∧ w = w' := by
  have HS := hid h
  obtain ⟨b, off, c, rfl, hc1, hm, hb, hc⟩ := h
  have hlen : (ts.length : Int) ≤ 9223372036854775807 := by omega
  cases h1 : inB n 1 10 with
  | false =>
    have HF := hid (tapsB_0 (ts := ts) h1)
    clear hc
    go_enter Try.func65, Try.ntmps65
    go_wp2_with (first | (go_at_call 70; (refine (l1In_any _ _ _ _).mono ?_); (rintro e w' ⟨rfl, rfl⟩); (rw [h1])) | fail)
    go_ret
    exact ⟨ret_bool HF.out.symm, rfl⟩
  | true =>
    have hn := inB_iff.1 h1
    by_cases h2 : 0 < ts.length
    · have hcx := hc 0 h2
      rw [Nat.add_zero] at hcx
      have q1 : (0 : Int) < (ts.length : Int) := by omega
      have HG := hid (getD_at h2)
      obtain ⟨x, hx⟩ : ∃ x, x = ts[0] := ⟨_, rfl⟩
      rw [← hx] at hcx HG
      clear hc hx
      by_cases h3 : x = 0
      · have HF := hid (tapsB_3 h1 h2 (HG.out.trans h3))
        subst h3
        go_enter Try.func65, Try.ntmps65
        go_wp2_with (first
          | (go_at_call 70; (refine (l1In_any _ _ _ _).mono ?_); (rintro e w' ⟨rfl, rfl⟩); (rw [h1]))
          | (go_at_call 93; (refine (l1Rising_any _ ts _ _ _ HS.out.reads).mono ?_); (rintro e w' ⟨rfl, rfl⟩))
          | fail)
        go_ret
        exact ⟨ret_bool HF.out.symm, rfl⟩
      · have HF := hid (tapsB_2 (n := n) (fun e => h3 (HG.out.symm.trans e)))
        have hxb : (x == 0) = false := by simp [h3]
        go_enter Try.func65, Try.ntmps65
        go_wp2_with (first
          | (go_at_call 70; (refine (l1In_any _ _ _ _).mono ?_); (rintro e w' ⟨rfl, rfl⟩); (rw [h1]))
          | fail)
        go_ret
        exact ⟨ret_bool HF.out.symm, rfl⟩
    · have HF := hid (tapsB_1 (n := n) h2)
      have q1 : ¬ (0 : Int) < (ts.length : Int) := by omega
      clear hc
      go_enter Try.func65, Try.ntmps65
      go_wp2_with (first
        | (go_at_call 70; (refine (l1In_any _ _ _ _).mono ?_); (rintro e w' ⟨rfl, rfl⟩); (rw [h1]))
        | fail)
      go_ret
      exact ⟨ret_bool HF.out.symm, rfl⟩
end Go.Proofs.Ytaajfpjekfmddab
