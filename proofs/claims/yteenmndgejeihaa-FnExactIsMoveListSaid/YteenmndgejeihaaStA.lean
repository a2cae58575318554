/- Contracts: the closure of stepsAlong, slices.IndexFunc with it, stepsAlong. Conditions: the lists are not nil and suit the moves. -/
import Derived.Test.YteenmndgejeihaaArP
import Derived.Test.YteenmndgejeihaaMvI7
import Derived.Test.YteenmndgejeihaaRep
namespace Go.Proofs.Yteenmndgejeihaa
open Go.RowKit
set_option linter.unusedVariables false
set_option maxRecDepth 4000

theorem SitsL.at4 {w : World} {b off c : Nat} {L : List (List Int)} (h : SitsL w (.slice (some ⟨b, off, none⟩) L.length c) L) : b < w.heap.size ∧ ∀ i (hi : i < L.length), ∃ u, w.cell? ⟨b, off + i, none⟩ = some u ∧ Sits w u L[i] := by
  obtain ⟨b', off', c', e, _, _, hb, hc⟩ := h
  simp only [Value.slice.injEq, Option.some.injEq, Addr.mk.injEq, and_true, true_and] at e
  obtain ⟨⟨rfl, rfl⟩, rfl⟩ := e
  exact ⟨hb, hc⟩
theorem Sits.slice5 {w : World} {v : Value} {l : List Int} (h : Sits w v l) : ∃ ao c, v = .slice ao l.length c := by
  obtain ⟨b, off, c, e, _⟩ := h
  exact ⟨_, c, e⟩
set_option maxHeartbeats 1000000 in
theorem leadsOn_any (m : Mv) (T : TypeId) (X : Value) (hV : mvV m = .iface T X) (L : List (List Int)) (k b off c : Nat) (x y : List Int) (a ai : Addr) (w : World)
    (ha : w.cell? a = some (.slice (some ⟨b, off, none⟩) L.length c)) (hi : w.cell? ai = some (.int .i64 (k : Int))) (h : SitsL w (.slice (some ⟨b, off, none⟩) L.length c) L)
    (hk : k + 1 < L.length) (hL : L.length ≤ 1100) (hx : x = L.getD k []) (hy : y = L.getD (k + 1) []) (hxl : x.length ≤ 1000) (hm : mvB x.length m.1 m.2.1 m.2.2 = true) :
    Calls Try.prog 122 #[.iface T X, .pointer (some a), .pointer (some ai)] w fun e w' => e = .returned (.bool (decide (mvM m x = y))) ∧ Below w.heap.size w w' := by
  obtain ⟨hb, hc⟩ := h.at4
  obtain ⟨z, hz, hzs⟩ := hc k (by omega)
  obtain ⟨z', hz', hzs'⟩ := hc (k + 1) hk
  rw [getDM (by omega)] at hx
  rw [getDM hk] at hy
  rw [← hx] at hzs
  rw [← hy] at hzs'
  obtain ⟨az, cz, hze⟩ := hzs.slice5
  obtain ⟨az', cz', hze'⟩ := hzs'.slice5
  subst hze hze'
  have HZ := hid hzs
  have HZ' := hid hzs'
  have HCON := hid (show ∀ (v : Value) (W : World), Sits W v x → Calls Try.prog 80 #[.iface T X, v] W (fun e w' => ∃ u, e = .returned u ∧ Reads w' u (mvM m x) ∧ Below W.heap.size W w') from fun v W h => by
    rw [← hV]
    refine (movedBy_any m v x W h (by omega) hm).mono ?_
    rintro e w' ⟨rfl, hr, hb⟩
    exact ⟨_, rfl, (RowL.own hr (mvM_len _ _) (by omega)).reads, hb⟩)
  obtain ⟨d, hd⟩ : ∃ d, d = decide (mvM m x = y) := ⟨_, rfl⟩
  have HD := hid hd
  rw [← hd]
  have q1 : (0 : Int) ≤ (k : Int) := by omega
  have q2 : (k : Int) < (L.length : Int) := by omega
  have q3 : (0 : Int) ≤ (k : Int) + 1 := by omega
  have q4 : (k : Int) + 1 < (L.length : Int) := by omega
  have q5 : IntKind.i64.wrap ((k : Int) + 1) = (k : Int) + 1 := IntWalk.i64_in _ (by omega)
  have q6 : ((k : Int) + 1).toNat = k + 1 := by omega
  clear h hc hzs hzs' hx hy hd hm hV
  go_enter Try.func122, Try.ntmps122
  go_wp2_with fail
  go_region_held3 (fun w' => w'.cell? a = some (.slice (some ⟨b, off, none⟩) L.length c) ∧ w'.cell? ai = some (.int .i64 (k : Int)) ∧ w'.cell? ⟨b, off + k, none⟩ = some (.slice az x.length cz) ∧ w'.cell? ⟨b, off + (k + 1), none⟩ = some (.slice az' y.length cz'))
    (first | exact ⟨ha, hi, hz, hz'⟩ | exact ⟨cell_below2 ha HB1.out, cell_below2 hi HB1.out, cell_below2 hz HB1.out, cell_below2 hz' HB1.out⟩ | exact ⟨cell_below2 ha HB2.out, cell_below2 hi HB2.out, cell_below2 hz HB2.out, cell_below2 hz' HB2.out⟩ | go_keep | fail)
    (first
      | (go_at_call 80; refine (HCON.out _ _ (HZ.out.below (Below.drew (Below.refl _ _)))).mono ?_; rintro e w1 ⟨u1, rfl, hr1, hb1⟩; have HR1 := hid hr1; obtain ⟨ao1, c1, rfl, _⟩ := hr1.view; have HB1 := hid ((Below.refl _ _).drew.trans hb1 : Below w.heap.size w w1); have HZ1 := hid (HZ'.out.below HB1.out); clear hr1 hb1)
      | (go_at_call 123; refine (Equal_any _ _ (mvM m x) y _ HR1.out HZ1.out.reads).mono ?_; rintro e w2 ⟨rfl, hb2⟩; rw [← HD.out]; have HB2 := hid (Below_chain HB1.out hb2); clear hb2)
      | fail)
  all_goals
    go_wp2_with fail
    go_ret
    exact ⟨rfl, HB2.out⟩
theorem madeInts0 (w : World) (K : Nat) : (w.alloc (.cells (madeCells #[.int .i64 0] K) 3)).rowIs w.heap.size 3 K (fun _ => .int .i64 0) := World.rowIs_made w (.int .i64 0) K 3
set_option maxHeartbeats 1000000 in
theorem IndexFunc_lead (ms : List Mv) (gm : Nat) (L : List (List Int)) (k b off c : Nat) (x y : List Int) (a ai : Addr) (w : World) (hmv : RowMv w gm ms) (hml : ms.length ≤ 12)
    (ha : w.cell? a = some (.slice (some ⟨b, off, none⟩) L.length c)) (hi : w.cell? ai = some (.int .i64 (k : Int))) (h : SitsL w (.slice (some ⟨b, off, none⟩) L.length c) L)
    (hk : k + 1 < L.length) (hL : L.length ≤ 1100) (hx : x = L.getD k []) (hy : y = L.getD (k + 1) []) (hxl : x.length ≤ 1000) (hg : ∀ t, t < ms.length → mvAt x.length ms t = true) :
    Calls Try.prog 124 #[.slice (some ⟨gm, 0, none⟩) ms.length ms.length, .func (.func 122) #[] #[.pointer (some a), .pointer (some ai)]] w fun e w' => e = .returned (.int .i64 (whI x y ms)) ∧ Below w.heap.size w w' := by
  have HMV := hid hmv
  have HH := hid h
  have HG := hid hg
  have HX := hid hx
  have HY := hid hy
  have hab := World.block_lt_of_cell? w _ ha
  have hib := World.block_lt_of_cell? w _ hi
  clear hmv h hg hx hy
  go_enter Try.func124, Try.ntmps124
  go_wp2_with fail
  go_loopw [8] (fun i wr => ∃ t : Nat, t ≤ ms.length ∧ i = .int .i64 t ∧ whI x y ms = firstI (ldsAt x y ms) t (ms.length - t) ∧ Below w.heap.size w wr) (fun i _ => ms.length - (intOf i).toNat)
  case atStart => exact ⟨0, Nat.zero_le _, rfl, rfl, Below.refl _ _⟩
  case round =>
    obtain ⟨t, ht, rfl, hall, hbel⟩ := hrel
    have HA := hid hall
    have HB := hid hbel
    clear hall
    by_cases hlt : t < ms.length
    · have HMV1 := hid (RowMv.below HMV.out hbel)
      have HH1 := hid (HH.out.below hbel)
      have ha1 := (hbel.cell (p := a) hab).trans ha
      have hi1 := (hbel.cell (p := ai) hib).trans hi
      obtain ⟨T, X, hV⟩ := mvV_iface (mGet ms t)
      have hcx : wr.cell? ⟨gm, t, none⟩ = some (.iface T X) := by rw [← hV]; exact HMV1.out.cell hlt
      have hmt := HG.out t hlt
      have HCON := hid (leadsOn_any (mGet ms t) T X hV L k b off c x y a ai wr ha1 hi1 HH1.out hk hL HX.out HY.out hxl hmt)
      have HR1 := hid (show ms.length - t = (ms.length - (t + 1)) + 1 by omega)
      have q1 : (0 : Int) ≤ (t : Int) := by omega
      have q2 : (t : Int) < (ms.length : Int) := by omega
      obtain ⟨d, hd⟩ : ∃ d, d = decide (mvM (mGet ms t) x = y) := ⟨_, rfl⟩
      have HK := hid (show ldsAt x y ms t = d from hd.symm)
      rw [← hd] at HCON
      clear hbel hmt hd hV ha1 hi1
      cases d with
      | true =>
        have HF := hid (show whI x y ms = (t : Int) by rw [HA.out, HR1.out, firstI_hit HK.out])
        go_wp2_with (first | (refine HCON.out.mono ?_; rintro e w1 ⟨rfl, hb1⟩; have HB1 := hid (Below_chain HB.out hb1); clear hb1) | fail)
        go_ret
        exact ⟨ret_int4 HF.out.symm, HB1.out⟩
      | false =>
        have HF := hid (show whI x y ms = firstI (ldsAt x y ms) (t + 1) (ms.length - (t + 1)) by rw [HA.out, HR1.out, firstI_miss HK.out])
        go_wp2_with (first | (refine HCON.out.mono ?_; rintro e w1 ⟨rfl, hb1⟩; have HB1 := hid (Below_chain HB.out hb1); clear hb1) | fail)
        go_roundw
        case rel => exact ⟨t + 1, by omega, by go_num, HF.out, HB1.out⟩
        case measure => simp [intOf]; omega
    · obtain rfl : t = ms.length := by omega
      have HF := hid (show whI x y ms = -1 by rw [HA.out, Nat.sub_self]; rfl)
      clear hbel
      go_wp2_with fail
      go_ret
      exact ⟨ret_int4 HF.out.symm, HB.out⟩
set_option maxHeartbeats 1000000 in
theorem stepsAlong_any (n : Nat) (L : List (List Int)) (ms : List Mv) (gm b off c : Nat) (w : World) (h : SitsL w (.slice (some ⟨b, off, none⟩) L.length c) L) (hmv : RowMv w gm ms) (hml : ms.length ≤ 12) (hL : L.length ≤ 1100) (hn : n ≤ 1000)
    (hln : ∀ t, t < L.length → (L.getD t []).length = n) (hg : ∀ t, t < ms.length → mvAt n ms t = true) :
    Calls Try.prog 93 #[.slice (some ⟨b, off, none⟩) L.length c, .slice (some ⟨gm, 0, none⟩) ms.length ms.length] w fun e w' => ∃ r, e = .returned (.tuple #[r, .bool (stB L ms)]) ∧ Own w' w.heap.size r (stRes L ms) ∧ Below w.heap.size w w' := by
  have HLN := hid hln
  have HG := hid hg
  obtain ⟨K, hK⟩ : ∃ K, K = L.length - 1 := ⟨_, rfl⟩
  have HK := hid hK
  have hbox := (World.rowIs_alloc w #[.slice (some ⟨b, off, none⟩) L.length c] 45 (fun _ => .slice (some ⟨b, off, none⟩) L.length c) (fun t ht => by
    match t, ht with
    | 0, _ => rfl
    | t + 1, h => exact absurd h (by simp))).cell (i := 0) (by simp)
  have HB0 := hid ((Below.refl w.heap.size w).alloc (Nat.le_refl _) (.cells #[.slice (some ⟨b, off, none⟩) L.length c] 45))
  have hsz0 : (w.alloc (.cells #[.slice (some ⟨b, off, none⟩) L.length c] 45)).heap.size = w.heap.size + 1 := by simp
  have hmk := run_make_ints K (by omega) (w.alloc (.cells #[.slice (some ⟨b, off, none⟩) L.length c] 45))
  have hr0 := madeInts0 (w.alloc (.cells #[.slice (some ⟨b, off, none⟩) L.length c] 45)) K
  have hb1 := (Below.refl (w.alloc (.cells #[.slice (some ⟨b, off, none⟩) L.length c] 45)).heap.size (w.alloc (.cells #[.slice (some ⟨b, off, none⟩) L.length c] 45))).alloc (Nat.le_refl _) (.cells (madeCells #[.int .i64 0] K) 3)
  rw [hsz0] at hmk hr0 hb1
  have HW0 := hid hsz0
  have HBOX := hid hbox
  have HSL := hid (h.below HB0.out)
  have HMV := hid (RowMv.below hmv HB0.out)
  have hmax : max ((L.length : Int) - 1) 0 = (K : Int) := by omega
  obtain ⟨w0, hw0⟩ : ∃ w0, w0 = w.alloc (.cells #[.slice (some ⟨b, off, none⟩) L.length c] 45) := ⟨_, rfl⟩
  obtain ⟨wm, hwm⟩ : ∃ wm, wm = (w.alloc (.cells #[.slice (some ⟨b, off, none⟩) L.length c] 45)).alloc (.cells (madeCells #[.int .i64 0] K) 3) := ⟨_, rfl⟩
  rw [← hwm] at hmk
  rw [← hw0] at HB0 HW0 HBOX HSL HMV hb1 hr0 hwm
  rw [← hwm] at hb1 hr0
  have HR0 := hid hr0
  have HB1 := hid hb1
  have hb0 : b < w.heap.size := h.at4.1
  clear hbox hsz0 hw0 hwm hr0 hb1 hmv h hln hg hK
  go_enter Try.func93, Try.ntmps93
  go_wp2_with fail
  clear hmk
  go_loopw [16] (fun i wr => ∃ k : Nat, k ≤ K ∧ i = .int .i64 k ∧ allTo k (stOk L ms) = true ∧ wr.rowIs (w.heap.size + 1) 3 K (fun t => if t < k then .int .i64 (stAt L ms t) else .int .i64 0) ∧ Below (w.heap.size + 1) w0 wr) (fun i _ => K - (intOf i).toNat)
  case atStart => exact ⟨0, Nat.zero_le _, rfl, rfl, HR0.out.congr (fun q hq => by simp), HB1.out⟩
  case round =>
    obtain ⟨k, hk, rfl, hall, hrow, hbel⟩ := hrel
    have HA := hid hall
    have HR := hid hrow
    have HB := hid hbel
    have hszr := World.rowIs.lt hrow
    have hw01 := HW0.out
    clear hall
    by_cases hlt : k < K
    · have hKL : k + 1 < L.length := by have := HK.out; omega
      have hbb : Below w0.heap.size w0 wr := by rw [hw01]; exact hbel
      have hbox2 : wr.cell? ⟨w.heap.size, 0, none⟩ = some (.slice (some ⟨b, off, none⟩) L.length c) := (hbb.cell (by show w.heap.size < w0.heap.size; omega)).trans HBOX.out
      have hba := (Below.refl wr.heap.size wr).alloc (Nat.le_refl _) (.cells #[.int .i64 (k : Int)] 3)
      have hbi := (World.rowIs_alloc wr #[.int .i64 (k : Int)] 3 (fun _ => .int .i64 (k : Int)) (fun t ht => by
        match t, ht with
        | 0, _ => rfl
        | t + 1, h => exact absurd h (by simp))).cell (i := 0) (by simp)
      have HBA := hid hba
      obtain ⟨x, hx⟩ : ∃ x, x = L.getD k [] := ⟨_, rfl⟩
      obtain ⟨y, hy⟩ : ∃ y, y = L.getD (k + 1) [] := ⟨_, rfl⟩
      have hxl : x.length = n := by rw [hx]; exact HLN.out k (by omega)
      have hgx : ∀ t, t < ms.length → mvAt x.length ms t = true := by rw [hxl]; exact HG.out
      obtain ⟨q, hq⟩ : ∃ q, q = whI x y ms := ⟨_, rfl⟩
      have HQ := hid (show stAt L ms k = q by rw [stAt, ← hx, ← hy, hq])
      have hD := (Below.refl (wr.alloc (.cells #[.int .i64 (k : Int)] 3)).heap.size (wr.alloc (.cells #[.int .i64 (k : Int)] 3))).drew
      obtain ⟨wa, hwa⟩ : ∃ wa, wa = wr.alloc (.cells #[.int .i64 (k : Int)] 3) := ⟨_, rfl⟩
      rw [← hwa] at HBA hba hbi hD
      have HCON := hid (IndexFunc_lead ms gm L k b off c x y ⟨w.heap.size, 0, none⟩ ⟨wr.heap.size, 0, none⟩ wa.drew
        ((((HMV.out.below hbb).below hba)).below hD) hml ((hba.drew.cell (by show w.heap.size < wr.heap.size; omega)).trans hbox2) hbi (((HSL.out.below hbb).below hba).below hD) hKL hL hx hy (by omega) hgx)
      have q1 : (0 : Int) ≤ (k : Int) := by omega
      have q2 : (k : Int) < (K : Int) := by omega
      have hsa : wr.heap.size ≤ wa.heap.size := hba.size
      have HRA := hid (rowIs_below HR.out hba hszr)
      have hga : w.heap.size + 1 < wa.heap.size := by omega
      rw [← hq] at HCON
      clear hbb hba hD hx hy hxl hgx hq hrow hbel hbox2 hw01
      by_cases hneg : q < 0
      · have HF := hid (show stB L ms = false by rw [stB, ← HK.out]; exact allTo_no hlt (by rw [stOk, HQ.out, decide_eq_false (by omega)]))
        have HRS := hid (show stRes L ms = [] by unfold stRes; rw [if_neg (by rw [HF.out]; simp)])
        go_wp2_with fail
        rw [← hwa]
        clear hwa
        go_region_held3 (fun w' => w'.cell? ⟨wr.heap.size, 0, none⟩ = some (.int .i64 (k : Int)))
          (first | exact hbi | exact cell_below2 hbi HB5.out | exact cell_set_ne (cell_below2 hbi HB5.out) (fun e => by simp only [Addr.mk.injEq] at e; omega) | go_keep | fail)
          (first
            | (go_at_call 124; refine HCON.out.mono ?_; rintro e w5 ⟨rfl, hb5⟩; have HB5 := hid ((Below.refl _ _).drew.trans hb5 : Below wa.heap.size wa w5); have HROW5 := hid (rowIs_below HRA.out HB5.out hga); have hcz := HROW5.out.cell (i := k) hlt; have hfz := HROW5.out.frozen k; obtain ⟨zz, hzz⟩ : ∃ zz, w5.cell? ⟨w.heap.size + 1, k, none⟩ = some zz := ⟨_, hcz⟩; clear hb5 hcz)
            | fail)
        all_goals
          have hai := cell_set_ne (b := ⟨w.heap.size + 1, k, none⟩) (v := .int .i64 q) (cell_below2 hbi HB5.out) (fun e => by simp only [Addr.mk.injEq] at e; omega)
          have hst := (HROW5.out.set k (.int .i64 q)).cell (i := k) hlt
          rw [if_pos rfl] at hst
          have HB6 := hid (((HB.out.trans (HBA.out.mono (by omega))).trans (HB5.out.mono (by omega))).setCell (p := ⟨w.heap.size + 1, k, none⟩) (Nat.le_refl _) (.int .i64 q))
          obtain ⟨w6, hw6⟩ : ∃ w6, w6 = w5.setCell ⟨w.heap.size + 1, k, none⟩ (.int .i64 q) := ⟨_, rfl⟩
          rw [← hw6] at hai hst HB6 ⊢
          have hsz1 := HW0.out
          clear hw6 hfz hzz
          go_wp2_with fail
          go_ret2
          exact ⟨_, ret_sbA HF.out.symm, by rw [HRS.out]; exact Own.nil _ _, HB0.out.trans (HB6.out.mono (by omega))⟩
      · have HT := hid (show stOk L ms k = true by rw [stOk, HQ.out, decide_eq_true (by omega)])
        go_wp2_with fail
        rw [← hwa]
        clear hwa
        go_region_held3 (fun w' => w'.cell? ⟨wr.heap.size, 0, none⟩ = some (.int .i64 (k : Int)))
          (first | exact hbi | exact cell_below2 hbi HB5.out | exact cell_set_ne (cell_below2 hbi HB5.out) (fun e => by simp only [Addr.mk.injEq] at e; omega) | go_keep | fail)
          (first
            | (go_at_call 124; refine HCON.out.mono ?_; rintro e w5 ⟨rfl, hb5⟩; have HB5 := hid ((Below.refl _ _).drew.trans hb5 : Below wa.heap.size wa w5); have HROW5 := hid (rowIs_below HRA.out HB5.out hga); have hcz := HROW5.out.cell (i := k) hlt; have hfz := HROW5.out.frozen k; obtain ⟨zz, hzz⟩ : ∃ zz, w5.cell? ⟨w.heap.size + 1, k, none⟩ = some zz := ⟨_, hcz⟩; clear hb5 hcz)
            | fail)
        all_goals
          have hai := cell_set_ne (b := ⟨w.heap.size + 1, k, none⟩) (v := .int .i64 q) (cell_below2 hbi HB5.out) (fun e => by simp only [Addr.mk.injEq] at e; omega)
          have hst := (HROW5.out.set k (.int .i64 q)).cell (i := k) hlt
          rw [if_pos rfl] at hst
          have HR6 := hid (HROW5.out.set k (.int .i64 q))
          have HB6 := hid (((HB.out.trans (HBA.out.mono (by omega))).trans (HB5.out.mono (by omega))).setCell (p := ⟨w.heap.size + 1, k, none⟩) (Nat.le_refl _) (.int .i64 q))
          obtain ⟨w6, hw6⟩ : ∃ w6, w6 = w5.setCell ⟨w.heap.size + 1, k, none⟩ (.int .i64 q) := ⟨_, rfl⟩
          rw [← hw6] at hai hst HB6 HR6 ⊢
          clear hw6 hfz hzz
          go_wp2_with fail
          go_roundw
          case rel => exact ⟨k + 1, by omega, by go_num, allTo_next HA.out HT.out, HR6.out.congr (fun t ht => by
            by_cases h1 : t = k
            · subst h1
              rw [if_pos rfl, if_pos (by omega), HQ.out]
            · rw [if_neg h1]
              by_cases h2 : t < k
              · rw [if_pos h2, if_pos (by omega)]
              · rw [if_neg h2, if_neg (by omega)]), HB6.out⟩
          case measure => simp [intOf]; omega
    · obtain rfl : k = K := by omega
      have HF := hid (show stB L ms = true by rw [stB, ← HK.out]; exact HA.out)
      have HRS := hid (show stRes L ms = stL L ms k by unfold stRes; rw [if_pos HF.out, ← HK.out])
      have hsz1 := HW0.out
      clear hbel hrow
      go_wp2_with fail
      go_ret2
      exact ⟨_, ret_sbA HF.out.symm, by rw [HRS.out]; exact (Own.of_rowIs (HR.out.congr (fun q hq => by rw [if_pos hq, List.getD_eq_getElem?_getD, stL]; simp [hq])) (stL_len _ _ _) (by unfold maxLen; omega)).mono (by omega), HB0.out.trans (HB.out.mono (by omega))⟩
end Go.Proofs.Yteenmndgejeihaa
