/- Contract: moversOf. Conditions: the slice reads as a list of moves. -/
import Derived.Test.YteenmndgejeihaaMvI4
namespace Go.Proofs.Yteenmndgejeihaa
open Go.RowKit
set_option linter.unusedVariables false
set_option maxRecDepth 4000

theorem Try.infoMr : (Try.prog.info? 82).map (fun i => (i.zero, i.size, i.bytes)) = some (some .nilIface, 1, 16) := by kernel_rfl
theorem run_make_movers (n : Nat) (hn : n ≤ 1048576) (w : World) : Sem.run Try.prog (Instr.makeSlice 99 (.int .i64 n) (.int .i64 n)) w = .ok (.slice (some ⟨w.heap.size, 0, none⟩) n n) (w.alloc (.cells (madeCells #[.nilIface] n) 82)) :=
  run_make_row' 99 82 .nilIface 16 Try.underlying99 Try.infoMr rfl .i64 .i64 n (by omega) (by omega) w
/-- block g holds the movers of ms -/
abbrev RowMv (w : World) (g : Nat) (ms : List Mv) : Prop := w.rowIs g 82 ms.length (fun t => mvV (mGet ms t))
theorem RowMv.below {w w' : World} {g : Nat} {ms : List Mv} (h : RowMv w g ms) (hb : Below w.heap.size w w') : RowMv w' g ms := World.rowIs.of_block h (hb.block g (World.rowIs.lt h))
theorem mvV_iface (m : Mv) : ∃ T X, mvV m = .iface T X := by
  unfold mvV
  split
  · exact ⟨_, _, rfl⟩
  · split <;> exact ⟨_, _, rfl⟩
set_option maxHeartbeats 1000000 in
theorem moversOf_any2 (n : Int) (v : Value) (ms : List Mv) (w : World) (h : ReadsM w v ms) :
    Calls Try.prog 91 #[.int .i64 n, v] w fun e w' => ∃ u, e = .returned (.tuple #[u, .bool (tkB n ms)]) ∧ ((tkB n ms = true → ∃ g, u = .slice (some ⟨g, 0, none⟩) ms.length ms.length ∧ RowMv w' g ms ∧ w.heap.size ≤ g) ∧ (tkB n ms = false → u = .slice none 0 0)) ∧ Below w.heap.size w w' := by
  obtain ⟨ao, c, rfl, hc1, hcm, h⟩ := h
  unfold maxLen at hcm
  by_cases h1 : n < 1
  · have HF := hid (show false = tkB n ms by rw [tkB, show inB n 1 5 = false by rw [Bool.eq_false_iff]; intro h; have := inB_iff.1 h; omega]; rfl)
    clear h
    go_enter Try.func91, Try.ntmps91
    go_wp2_with fail
    go_ret2
    exact ⟨_, ret_vb rfl HF.out, ⟨fun h => absurd h (by rw [← HF.out]; simp), fun _ => rfl⟩, Below.refl _ _⟩
  by_cases h5 : 5 < n
  · have HF := hid (show false = tkB n ms by rw [tkB, show inB n 1 5 = false by rw [Bool.eq_false_iff]; intro h; have := inB_iff.1 h; omega]; rfl)
    clear h
    go_enter Try.func91, Try.ntmps91
    go_wp2_with fail
    go_ret2
    exact ⟨_, ret_vb rfl HF.out, ⟨fun h => absurd h (by rw [← HF.out]; simp), fun _ => rfl⟩, Below.refl _ _⟩
  by_cases h12 : 12 < ms.length
  · have HF := hid (show false = tkB n ms by rw [tkB, decide_eq_false (show ¬ ms.length ≤ 12 by omega)]; simp)
    have h12' : (12 : Int) < (ms.length : Int) := by omega
    clear h
    go_enter Try.func91, Try.ntmps91
    go_wp2_with fail
    go_ret2
    exact ⟨_, ret_vb rfl HF.out, ⟨fun h => absurd h (by rw [← HF.out]; simp), fun _ => rfl⟩, Below.refl _ _⟩
  have h12' : ¬ (12 : Int) < (ms.length : Int) := by omega
  have HTK := hid (show tkB n ms = allTo ms.length (mvAt n ms) by rw [tkB, show inB n 1 5 = true from inB_iff.2 ⟨by omega, by omega⟩, decide_eq_true (show ms.length ≤ 12 by omega)]; rfl)
  have HIM := hid (show ∀ k i j, imV n k i j = mvB n k i j from fun k i j => by rw [imV, show inB n 0 12 = true from inB_iff.2 ⟨by omega, by omega⟩]; rfl)
  have hmk := run_make_movers ms.length (by omega) w
  have HR0 := hid (World.rowIs_made w .nilIface ms.length 82)
  have HB0 := hid (show Below w.heap.size w (w.alloc (.cells (madeCells #[.nilIface] ms.length) 82)) from (Below.refl _ _).alloc (Nat.le_refl _) _)
  have HS0 := hid (show w.heap.size < (w.alloc (.cells (madeCells #[.nilIface] ms.length) 82)).heap.size by simp)
  obtain ⟨wm, hwm⟩ : ∃ wm, wm = w.alloc (.cells (madeCells #[.nilIface] ms.length) 82) := ⟨_, rfl⟩
  rw [← hwm] at hmk HR0 HB0 HS0
  have HD := hid h
  clear hwm h
  go_enter Try.func91, Try.ntmps91
  go_wp2_with fail
  go_loopw [27] (fun i wr => ∃ t : Nat, t ≤ ms.length ∧ i = .int .i64 t ∧ allTo t (mvAt n ms) = true ∧ wr.rowIs w.heap.size 82 ms.length (fun q => if q < t then mvV (mGet ms q) else .nilIface) ∧ Below w.heap.size w wr) (fun i _ => ms.length - (intOf i).toNat)
  case atStart => exact ⟨0, Nat.zero_le _, rfl, rfl, HR0.out.congr (fun q hq => by simp), HB0.out⟩
  case round =>
    obtain ⟨t, ht, rfl, hall, hrow, hbel⟩ := hrel
    have HA := hid hall
    have HR := hid hrow
    have HB := hid hbel
    have hsz := World.rowIs.lt hrow
    clear hall
    by_cases hlt : t < ms.length
    · rcases HD.out with h0 | ⟨b, off, rfl, hb, hc⟩
      · rw [h0] at hlt; simp at hlt
      obtain ⟨e0, e1, e2⟩ := hc t hlt
      have hc0 := (hbel.cell (p := ⟨b, off + t * 3, none⟩) (by exact hb)).trans e0
      have hc1' := (hbel.cell (p := ⟨b, off + t * 3 + 1, none⟩) (by exact hb)).trans e1
      have hc2 := (hbel.cell (p := ⟨b, off + t * 3 + 2, none⟩) (by exact hb)).trans e2
      have HK := hid (show mvAt n ms t = mvB n ms[t].1 ms[t].2.1 ms[t].2.2 by rw [mvAt, mGet_at hlt])
      have HME := hid (mGet_at hlt)
      obtain ⟨m, hm⟩ : ∃ m, m = ms[t] := ⟨_, rfl⟩
      rw [← hm] at hc0 hc1' hc2 HK HME
      obtain ⟨k, i, j⟩ := m
      simp only at hc0 hc1' hc2 HK
      clear e0 e1 e2 hc hm hrow hbel
      cases hg : mvB n k i j with
      | true =>
        have HG := hid (show imV n k i j = true by rw [HIM.out, hg])
        have HGV := hid (show mvV (k, i, j) = moVal n k i j from moVal_yes HG.out.symm)
        have HK2 := hid (HK.out.trans hg)
        obtain ⟨T, X, hV⟩ := mvV_iface (k, i, j)
        have HVE := hid hV
        rw [hV] at HGV
        clear hg hV
        go_wp2_with (first | (go_at_call 78; refine (moverOf_any n k i j _).mono ?_; rintro e w1 ⟨rfl, hb1⟩; rw [← HGV.out, HG.out]; have HB1 := hid hb1; have HR1 := hid (World.rowIs.of_block (World.rowIs.alloc HR.out (mvObj k i j)) (hb1.block _ (by simp; omega))); have hcz := HR1.out.cell hlt; have hfz := HR1.out.frozen t; clear hb1) | fail)
        have HS := hid (HR1.out.set t (.iface T X))
        have HBB := hid ((Below_chain (HB.out.alloc HB.out.size (mvObj k i j)) HB1.out).setCell (p := ⟨w.heap.size, t, none⟩) (Nat.le_refl _) (.iface T X))
        clear hcz hfz
        go_roundw
        case rel => exact ⟨t + 1, by omega, by go_num, allTo_next HA.out HK2.out, HS.out.congr (fun q hq => by
          by_cases h1 : q = t
          · subst h1
            rw [if_pos rfl, if_pos (by omega), HME.out, HVE.out]
          · rw [if_neg h1]
            by_cases h2 : q < t
            · rw [if_pos h2, if_pos (by omega)]
            · rw [if_neg h2, if_neg (by omega)]), HBB.out⟩
        case measure => simp [intOf]; omega
      | false =>
        have HG := hid (show imV n k i j = false by rw [HIM.out, hg])
        have HGV := hid (show .nilIface = moVal n k i j from moVal_no HG.out.symm)
        have HF := hid (show false = tkB n ms by rw [HTK.out, allTo_no hlt (HK.out.trans hg)])
        clear hg
        go_wp2_with (first | (go_at_call 78; refine (moverOf_any n k i j _).mono ?_; rintro e w1 ⟨rfl, hb1⟩; rw [← HGV.out, HG.out]; have HB1 := hid (Below_chain (HB.out.alloc HB.out.size (mvObj k i j)) hb1); clear hb1) | fail)
        go_ret2
        exact ⟨_, ret_vb rfl HF.out, ⟨fun h => absurd h (by rw [← HF.out]; simp), fun _ => rfl⟩, HB1.out⟩
    · obtain rfl : t = ms.length := by omega
      have HF := hid (show true = tkB n ms by rw [HTK.out, HA.out])
      clear hrow hbel
      go_wp2_with fail
      go_ret2
      exact ⟨_, ret_vb rfl HF.out, ⟨fun _ => ⟨_, rfl, HR.out.congr (fun q hq => by rw [if_pos hq]), Nat.le_refl _⟩, fun h => absurd h (by rw [← HF.out]; simp)⟩, HB.out⟩
theorem moversOf_any (n : Int) (v : Value) (ms : List Mv) (w : World) (h : ReadsM w v ms) :
    Calls Try.prog 91 #[.int .i64 n, v] w fun e w' => ∃ u, e = .returned (.tuple #[u, .bool (tkB n ms)]) ∧ (tkB n ms = true → ∃ g, u = .slice (some ⟨g, 0, none⟩) ms.length ms.length ∧ RowMv w' g ms ∧ w.heap.size ≤ g) ∧ Below w.heap.size w w' := by
  refine (moversOf_any2 n v ms w h).mono ?_
  rintro e w' ⟨u, h1, h2, h3⟩
  exact ⟨u, h1, h2.1, h3⟩
end Go.Proofs.Yteenmndgejeihaa
