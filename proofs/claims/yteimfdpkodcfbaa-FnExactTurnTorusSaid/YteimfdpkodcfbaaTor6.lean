/- Turning a torus: the model's contract. Conditions: none. -/
import Derived.Test.YteimfdpkodcfbaaTor1
import Derived.Test.YteimfdpkodcfbaaTor2
import Derived.Test.YteimfdpkodcfbaaTor3
import Derived.Test.YteimfdpkodcfbaaPair2
import Derived.Test.YteimfdpkodcfbaaTorL
namespace Go.Proofs.Yteimfdpkodcfbaa
open Go.RowKit Go.Maps
set_option linter.unusedVariables false
set_option maxRecDepth 4000

def ttO (L : List (List Int)) (d r : Int) : Bool := tuB L && inB d 0 ((L.length : Int) - 1) && inB r 0 (((16 / L.length : Nat) : Int) - 1)
def ttL (L : List (List Int)) (d r k : Nat) : List (List Int) := (List.range k).map fun i => arL (L.getD ((i + d) % L.length) []) r (16 / L.length)
def ttR (L : List (List Int)) (d r : Int) : List (List Int) := if ttO L d r = true then ttL L d.toNat r.toNat L.length else []
theorem ttL_len (L : List (List Int)) (d r k : Nat) : (ttL L d r k).length = k := by simp [ttL]
theorem ttL_succ (L : List (List Int)) (d r k : Nat) : ttL L d r (k + 1) = ttL L d r k ++ [arL (L.getD ((k + d) % L.length) []) r (16 / L.length)] := by simp [ttL, List.range_succ]
theorem ttR_no {L : List (List Int)} {d r : Int} (h : ttO L d r = false) : ttR L d r = [] := by unfold ttR; rw [if_neg (by rw [h]; simp)]
theorem ttR_yes {L : List (List Int)} {d r : Int} (h : ttO L d r = true) : ttR L d r = ttL L d.toNat r.toNat L.length := by unfold ttR; rw [if_pos h]
theorem ret_tb {u : Value} {b c : Bool} (h : b = c) : Ending.returned (.tuple #[.agg #[u], .bool b]) = .returned (.tuple #[.agg #[u], .bool c]) := by rw [h]
theorem Lists.stayT {w w' : World} {B : Nat} {v : Value} {L : List (List Int)} (h : Lists w B v L) (hk : ∀ k, B ≤ k → k < w.heap.size → w'.heap[k]? = w.heap[k]?) : Lists w' B v L := by
  obtain ⟨vs, a, b, c⟩ := h
  exact ⟨vs, a, ownsRow_stay b hk, fun i x y => (c i x y).stay hk⟩
theorem size_alloc9 {n : Nat} {w : World} (h : n ≤ w.heap.size) (o : Obj) : n ≤ (w.alloc o).heap.size := by simp; omega
set_option maxHeartbeats 2000000 in
theorem spec_TurnTorus_any (v : Value) (L : List (List Int)) (d r : Int) (w : World) (h : SitsL w v L) :
    Calls Try.prog 55 #[.agg #[v], .int .i64 d, .int .i64 r] w fun e w' => ∃ u, e = .returned (.tuple #[.agg #[u], .bool (ttO L d r)]) ∧ Lists w' w.heap.size u (ttR L d r) ∧ Below w.heap.size w w' := by
  have HS := hid h
  obtain ⟨b, off, c0, rfl⟩ := sitsL_shape h
  obtain ⟨w1, hw1⟩ : ∃ w1, w1 = (w.alloc (.cells #[.slice (some ⟨b, off, none⟩) L.length c0] 48)).alloc (.cells #[.slice none 0 0] 48) := ⟨_, rfl⟩
  have hB1 : Below w.heap.size w w1 := by rw [hw1]; exact ((Below.refl _ _).alloc (Nat.le_refl _) _).alloc (sz_al9 (Nat.le_refl _) _) _
  have HB1 := hid hB1
  have HS1 := hid (show w1.heap.size = w.heap.size + 2 by rw [hw1]; simp)
  have HX1 := hid (show w1.cell? ⟨w.heap.size, 0, none⟩ = some (.slice (some ⟨b, off, none⟩) L.length c0) by rw [hw1]; simp)
  have HP1 := hid (show w1.rowIs (w.heap.size + 1) 48 1 (fun _ => .slice none 0 0) by rw [hw1]; exact slot_row _ _ _ (by simp))
  have HSI := hid (h.below hB1)
  have HW1 := hid hw1
  clear hw1 hB1 h
  have hcell : ∀ W, Below w1.heap.size w1 W → W.cell? ⟨w.heap.size, 0, none⟩ = some (.slice (some ⟨b, off, none⟩) L.length c0) ∧ W.rowIs (w.heap.size + 1) 48 1 (fun _ => .slice none 0 0) ∧ Below w.heap.size w W := fun W hb =>
    ⟨(hb.cell (p := ⟨w.heap.size, 0, none⟩) (by show w.heap.size < w1.heap.size; rw [HS1.out]; omega)).trans HX1.out, HP1.out.of_block (hb.block (w.heap.size + 1) (by rw [HS1.out]; omega)), Below_chain HB1.out hb⟩
  have HC := hid hcell
  clear hcell
  cases hO : ttO L d r with
  | false =>
    have HF := hid (ttR_no hO)
    rw [HF.out]
    cases ht : tuB L with
    | false =>
      go_enter Try.func55, Try.ntmps55
      go_wp2_with (first
        | (go_at_call 103; (rw [← HW1.out]); (refine (suTorus_any _ L _ HSI.out).mono ?_); (rintro e w2 ⟨rfl, hb2⟩); (rw [ht]); (have hx := HC.out _ hb2); (have HX := hid hx); (have hr := hx.2.1); (have HR := hid hr); (have hc := hr.cell (i := 0) (by omega)); (have hf := hr.frozen 0); (have x0 := hx.1); (have HB2 := hid hb2);  (clear hx hr hb2))
        | fail)
      have hs := row_same9 HR.out (i := 0) (by omega) (.slice none 0 0)
      exact bodyPost_ret (v := .tuple #[.agg #[.slice none 0 0], .bool false]) (by simp [results, Try.results55, hs, go_sem]; try rfl) rfl ⟨_, rfl, Lists.nil _ _, HX.out.2.2.setCell (p := ⟨w.heap.size + 1, 0, none⟩) (Nat.le_succ _) _⟩
    | true =>
      obtain ⟨n, hn⟩ : ∃ n, n = L.length := ⟨_, rfl⟩
      obtain ⟨c, hc⟩ : ∃ c, c = 16 / L.length := ⟨_, rfl⟩
      have HN := hid hn
      have HCC := hid hc
      have HI := hid (show TuI L n c by rw [hn, hc]; exact tuB_iff.1 ht)
      have h1 := HI.out.n1
      have hdr : (inB d 0 ((n : Int) - 1) && inB r 0 ((c : Int) - 1)) = false := by
        unfold ttO at hO
        rw [ht, Bool.true_and] at hO
        rw [hn, hc]; exact hO
      rw [← hn] at HX1 HC HW1 HS HSI ⊢
      rw [Bool.and_eq_false_iff] at hdr
      clear hn hc
      cases hd : inB d 0 ((n : Int) - 1) with
      | false =>
        have HD := hid hd
        clear hdr
        go_enter Try.func55, Try.ntmps55
        go_wp2_with (first
          | (go_at_call 103; (rw [← HW1.out]); (refine (suTorus_any _ L _ HSI.out).mono ?_); (rintro e w2 ⟨rfl, hb2⟩); (rw [ht]); (have hx := HC.out _ hb2); (have HX := hid hx); (have hr := hx.2.1); (have HR := hid hr); (have hc := hr.cell (i := 0) (by omega)); (have hf := hr.frozen 0); (have x0 := hx.1); (have HB2 := hid hb2);  (clear hx hr hb2))
          | (go_at_call 96; (refine (l1In_any d _ _ _).mono ?_); (rintro e w' ⟨rfl, rfl⟩); (rw [HD.out]))
          | fail)
        have hs := row_same9 HR.out (i := 0) (by omega) (.slice none 0 0)
        exact bodyPost_ret (v := .tuple #[.agg #[.slice none 0 0], .bool false]) (by simp [results, Try.results55, hs, go_sem]; try rfl) rfl ⟨_, rfl, Lists.nil _ _, HX.out.2.2.setCell (p := ⟨w.heap.size + 1, 0, none⟩) (Nat.le_succ _) _⟩
      | true =>
        have HD := hid hd
        have HR9 := hid (hdr.resolve_left (by rw [hd]; simp))
        clear hdr
        go_enter Try.func55, Try.ntmps55
        go_wp2_with (first
          | (go_at_call 103; (rw [← HW1.out]); (refine (suTorus_any _ L _ HSI.out).mono ?_); (rintro e w2 ⟨rfl, hb2⟩); (rw [ht]); (have hx := HC.out _ hb2); (have HX := hid hx); (have hr := hx.2.1); (have HR := hid hr); (have hc := hr.cell (i := 0) (by omega)); (have hf := hr.frozen 0); (have x0 := hx.1); (have HB2 := hid hb2); (obtain ⟨bi, oi, ci, ht0⟩ := HI.out.trow (HS.out.below HX.out.2.2) (i := 0) HI.out.n1.1); (have y0 : w2.cell? ⟨b, off, none⟩ = some (.slice (some ⟨bi, oi, none⟩) c ci) := ht0.cell); (have y1 := ht0.cap); (have y2 := ht0.capm); (clear ht0); (clear hx hr hb2))
          | (go_at_call 96; (have hq9 := HQ9); (refine (l1In_any r _ _ _).mono ?_); (rintro e w' ⟨rfl, rfl⟩); (rw [HR9.out]))
          | (go_at_call 96; (refine (l1In_any d _ _ _).mono ?_); (rintro e w' ⟨rfl, rfl⟩); (rw [HD.out]); (have HQ9 := hid (trivial : True)))
          | fail)
        have hs := row_same9 HR.out (i := 0) (by omega) (.slice none 0 0)
        exact bodyPost_ret (v := .tuple #[.agg #[.slice none 0 0], .bool false]) (by simp [results, Try.results55, hs, go_sem]; try rfl) rfl ⟨_, rfl, Lists.nil _ _, HX.out.2.2.setCell (p := ⟨w.heap.size + 1, 0, none⟩) (Nat.le_succ _) _⟩
  | true =>
    have ho := hO
    unfold ttO at ho
    rw [Bool.and_eq_true, Bool.and_eq_true] at ho
    obtain ⟨⟨ht, hd⟩, hr⟩ := ho
    have HTT := hid ht
    obtain ⟨n, hn⟩ : ∃ n, n = L.length := ⟨_, rfl⟩
    obtain ⟨c, hc⟩ : ∃ c, c = 16 / L.length := ⟨_, rfl⟩
    have HN := hid hn
    have HCC := hid hc
    have HI := hid (show TuI L n c by rw [hn, hc]; exact tuB_iff.1 ht)
    have h1 := HI.out.n1
    have HF := hid (ttR_yes hO)
    rw [← hn] at hd
    rw [← hc] at hr
    rw [← hn] at HX1 HC HW1 HS HSI HF ⊢
    have hd2 := inB_iff.1 hd
    have hr2 := inB_iff.1 hr
    have HD := hid hd
    have HR9 := hid hr
    obtain ⟨D, rfl⟩ : ∃ D : Nat, d = (D : Int) := ⟨d.toNat, by omega⟩
    obtain ⟨R, rfl⟩ : ∃ R : Nat, r = (R : Int) := ⟨r.toNat, by omega⟩
    rw [HF.out]
    simp only [Int.toNat_natCast]
    obtain ⟨i0, hi, hz0, hz1, hz2⟩ := info_parts Try.infoL
    have HTS := hid (fun k => ttL_succ L D R k)
    rw [← HCC.out, ← HN.out] at HTS
    have HTL := hid (ttL_len L D R)
    clear hn hc ht hd hr hO HF
    go_enter Try.func55, Try.ntmps55
    go_wp2_with (first
      | (go_at_call 103; (rw [← HW1.out]); (refine (suTorus_any _ L _ HSI.out).mono ?_); (rintro e w2 ⟨rfl, hb2⟩); (rw [HTT.out]); (have hx := HC.out _ hb2); (have HX := hid hx); (have x0 := hx.1); (have HB2 := hid hb2); (obtain ⟨bi, oi, ci, ht0⟩ := HI.out.trow (HS.out.below HX.out.2.2) (i := 0) HI.out.n1.1); (have y0 : w2.cell? ⟨b, off, none⟩ = some (.slice (some ⟨bi, oi, none⟩) c ci) := ht0.cell); (have y1 := ht0.cap); (have y2 := ht0.capm); (have x1 : (w2.alloc (.cells #[.slice none 0 0] 48)).cell? ⟨w.heap.size, 0, none⟩ = some (.slice (some ⟨b, off, none⟩) n c0) := cell_belowT x0 ((Below.refl _ _).alloc (Nat.le_refl _) _)); (clear ht0); (clear hx hb2))
      | (go_at_call 96; (have hq9 := HQ9); (refine (l1In_any (R : Int) _ _ _).mono ?_); (rintro e w' ⟨rfl, rfl⟩); (rw [HR9.out]))
      | (go_at_call 96; (refine (l1In_any (D : Int) _ _ _).mono ?_); (rintro e w' ⟨rfl, rfl⟩); (rw [HD.out]); (have HQ9 := hid (trivial : True)))
      | fail)
    obtain ⟨w3, hw3⟩ : ∃ w3, w3 = w2.alloc (.cells #[.slice none 0 0] 48) := ⟨_, rfl⟩
    obtain ⟨p, hp⟩ : ∃ p, p = w2.heap.size := ⟨_, rfl⟩
    have HB3 := hid (show Below w1.heap.size w1 w3 by rw [hw3]; exact HB2.out.alloc HB2.out.size _)
    have HP := hid (show w1.heap.size ≤ p by rw [hp]; exact HB2.out.size)
    have HRP := hid (show w3.rowIs p 48 1 (fun _ => .slice none 0 0) by rw [hw3]; exact slot_row _ _ _ hp)
    have hsp : w.heap.size + 2 ≤ p := by have := HP.out; have := HS1.out; omega
    rw [← hw3, ← hp]
    clear x0 x1 y0 y1 y2 hq9 HQ9 hw3 hp
    go_loopw [9, 10, 39] (fun _ _ i wr => ∃ (k cc : Nat) (aA : Option Addr), i = .int .i64 (k : Int) ∧ k ≤ n ∧ wr.rowIs p 48 1 (fun _ => .slice aA k cc) ∧ Lists wr (p + 1) (.slice aA k cc) (ttL L D R k) ∧ Below w1.heap.size w1 wr) (fun _ _ i _ => n - (intOf i).toNat)
    case atStart => exact ⟨0, 0, none, rfl, Nat.zero_le _, HRP.out, Lists.nil _ _, HB3.out⟩
    case round =>
      obtain ⟨k, cc, aA, rfl, hk, hrow, hls, hbel⟩ := hrel
      have HROW := hid hrow
      have HLS := hid hls
      have HB := hid hbel
      have hx := HC.out _ hbel
      have x0 := hx.1
      have HX := hid hx
      have hcp := hrow.cell (i := 0) (by omega)
      clear hrow hls hbel hx
      by_cases hlt : k < n
      · obtain ⟨m, hm⟩ : ∃ m, m = (k + D) % n := ⟨_, rfl⟩
        have hmn : m < n := by rw [hm]; exact Nat.mod_lt _ (by omega)
        obtain ⟨bi, oi, ci, ht0⟩ := HI.out.trow (HS.out.below HX.out.2.2) hmn
        have HT0 := hid ht0
        have y0 := ht0.cell
        have y1 := ht0.cap
        have y2 := ht0.capm
        have hq0 : (0 : Int) ≤ (m : Int) := by omega
        have hq1 : (m : Int) < (n : Int) := by omega
        have e1 : IntKind.i64.wrap ((k : Int) + (D : Int)) = (k : Int) + (D : Int) := IntWalk.i64_in _ (by omega)
        have e2 : ((k : Int) + (D : Int)) % (n : Int) = (m : Int) := by rw [hm, Int.natCast_emod, Int.natCast_add]
        have e3 : ((k : Int) + (D : Int)).tmod (n : Int) = (m : Int) := by rw [Int.tmod_eq_emod_of_nonneg (by omega), e2]
        have e4 : ¬ (n : Int) = 0 := by omega
        have e5 : ¬ n = 0 := by omega
        have e6 : IntKind.i64.wrap (m : Int) = (m : Int) := IntWalk.i64_in _ (by omega)
        have HM := hid hm
        clear hm ht0
        go_wp2_with fail
        go_quiet (fail)
        obtain ⟨wq, hwq⟩ : ∃ wq, wq = wr.drewN nq := ⟨_, rfl⟩
        have hqb : Below wr.heap.size wr wq := by rw [hwq]; exact below_drewN (Below.refl _ _) _
        rw [← hwq]
        have hsq : p < wr.heap.size := HROW.out.lt
        have HSQ := hid hsq
        have HROWq := hid (HROW.out.of_block (hqb.block p hsq))
        have HLSq := hid (HLS.out.below hqb)
        have HBq := hid (Below_chain HB.out hqb)
        have hrowL := HI.out.row m hmn
        obtain ⟨lm, hlm⟩ : ∃ lm, lm = L.getD m [] := ⟨_, rfl⟩
        have HLM := hid hlm
        have hsit : Sits wr (.slice (some ⟨bi, oi, none⟩) c ci) lm := by
          have := HT0.out
          exact ⟨bi, oi, ci, by rw [hlm, hrowL], by rw [hlm, hrowL]; exact this.cap, this.capm, this.lt, fun i hi => by
            have hi2 : i < c := by rw [hlm, hrowL] at hi; exact hi
            rw [this.at' i hi2]
            subst hlm
            rw [List.getD_eq_getElem?_getD, List.getElem?_eq_getElem hi]; rfl⟩
        have HSR := hid (hsit.below (hqb.trans ((Below.refl _ _).drew) : Below wr.heap.size wr wq.drew))
        have hlc : lm.length = c := by rw [hlm, hrowL]
        have HLC := hid hlc
        have hA : k + 1 ≤ maxLen := by unfold maxLen; omega
        have hB : (k + 1) * 24 ≤ 140737488355328 := by omega
        have hszq : p < wq.heap.size := Nat.lt_of_lt_of_le hsq hqb.size
        have hcq := HROWq.out.cell (i := 0) (by omega)
        have l1 : 1 ≤ lm.length := by omega
        have l2 : lm.length ≤ 1048576 := by omega
        have l3 : R ≤ 1048576 := by omega
        have l4 : c ≤ 1048576 := by omega
        clear hqb hwq hsit hrowL hlm hlc y0 hcp x0 e1 e2 e3 e4 e5 e6 hq0 hq1
        go_wp2_with fail
        go_region_law
          (first
            | (refine step_append_any _ rfl _ _ _ rfl (p + 1) 22 i0 (.slice none 0 0) 1 24 Try.underlying28 hi hz0 hz1 hz2 rfl Nat.zero_lt_one _ _ _ rfl (World.ownsRow.alloc HVR.out _) ⟨w5.heap.size, 0, none⟩ 1 1 [.slice a5 c c5] rfl rfl (fun j u hj => new_cellV j hj) HONE.out hA hB hs5a ?_; intro v6 w6 hown6 hgrow6 hn6; have HPU := hid (Lists_push HVL.out (World.ownsRow.alloc (by rw [HTL.out]; exact HVR.out) _) (fun i a b => (HVE.out i a b).below ((Below.refl _ _).alloc (Nat.le_refl _) _)) HOA.out (by rw [HTL.out]; exact hown6) hgrow6); obtain ⟨g6, cap6, rfl, _, _⟩ := hown6.form (by omega); have HG6 := hid hgrow6; have hr6 := HRA.out _ hgrow6; have HR6 := hid hr6; have hc6 := hr6.cell (i := 0) (by omega); have hf6 := hr6.frozen 0; clear hown6 hgrow6 hn6 hr6)
            | (go_simp; go_at_call 94; refine (suRound_any _ lm R c _ HSR.out l1 l2 l3 l4).mono ?_; rintro e w5 ⟨u5, rfl, ho5, hb5⟩; obtain ⟨a5, c5, hu5, _, _⟩ := ho5.shp9; rw [arL_len] at hu5; subst hu5; have HO5 := hid (ho5.mono (show p + 1 ≤ wq.drew.heap.size from hszq)); have HA5 := hid ((Below.refl _ _).drew.trans hb5 : Below wq.heap.size wq w5); have hs5a := Nat.le_trans hszq (size_alloc9 HA5.out.size (.cells #[.slice a5 c c5] 22)); obtain ⟨vs, hvl, hvr, hve⟩ := HLSq.out.below HA5.out; rw [HTL.out] at hvr; have HVL := hid hvl; have HVR := hid hvr; have HVE := hid hve; have HONE := hid HO5.out.one; have HOA := hid (HO5.out.below ((Below.refl _ _).alloc (Nat.le_refl _) (.cells #[.slice a5 c c5] 22))); have hcd := cell_belowT hcq HA5.out; have hce := cell_belowT hcd ((Below.refl _ _).alloc (Nat.le_refl _) (.cells #[.slice a5 c c5] 22)); have HRA := hid (fun w6 (hg : (w5.alloc (.cells #[.slice a5 c c5] 22)).grownBy w6 (Value.ownBlock (.slice aA k cc))) => ((HROWq.out.of_block (HA5.out.block p hszq)).of_block (((Below.refl w5.heap.size w5).alloc (Nat.le_refl _) (.cells #[.slice a5 c c5] 22)).block p (Nat.lt_of_lt_of_le hszq HA5.out.size))).of_block (hg.block p (by have := HA5.out.size; simp; omega) (fun e => by have := (World.ownsRow.lt HVR.out p e.symm).1; omega))); clear ho5 hb5 hvl hvr hve)
            | fail)
        all_goals
          have HBF := hid ((((Below_chain HBq.out HA5.out).alloc (Below_chain HBq.out HA5.out).size (.cells #[.slice a5 c c5] 22)).grown HG6.out (Nat.le_trans (Below_chain HBq.out HA5.out).size (by simp)) (fun q hq => by have := (World.ownsRow.lt HVR.out q hq).1; have := HP.out; omega)).setCell (p := ⟨p, 0, none⟩) HP.out (.slice (some ⟨g6, 0, none⟩) (k + 1) cap6))
          have HLF := hid (show Lists (w6.setCell ⟨p, 0, none⟩ (.slice (some ⟨g6, 0, none⟩) (k + 1) cap6)) (p + 1) (.slice (some ⟨g6, 0, none⟩) (k + 1) cap6) (ttL L D R (k + 1)) by
            rw [HTS.out, ← HM.out, ← HLM.out]
            exact HPU.out.stayT (fun q h1 h2 => Below.heap_setCell _ _ _ _ (by simp; omega)))
          have HRF := hid (HR6.out.set 0 (.slice (some ⟨g6, 0, none⟩) (k + 1) cap6))
          go_wp2_with fail
          go_roundw
          case rel => exact ⟨k + 1, cap6, some ⟨g6, 0, none⟩, by go_num, hlt, HRF.out.congr (fun i hi => by rw [if_pos (by omega)]), HLF.out, HBF.out⟩
          case measure => simp [intOf]; omega
      · obtain rfl : k = n := by omega
        have hr := HX.out.2.1
        have HR := hid hr
        have hc := hr.cell (i := 0) (by omega)
        have hf := hr.frozen 0
        clear hr
        go_wp2_with fail
        have hs := row_same9 HR.out (i := 0) (by omega) (.slice aA k cc)
        exact bodyPost_ret (v := .tuple #[.agg #[.slice aA k cc], .bool true]) (by simp [results, Try.results55, hs, go_sem]; try rfl) rfl ⟨_, rfl, (HLS.out.stayT (fun q h1 h2 => Below.heap_setCell _ _ _ _ (by simp; omega))).mono (by omega), HX.out.2.2.setCell (p := ⟨w.heap.size + 1, 0, none⟩) (Nat.le_succ _) _⟩
end Go.Proofs.Yteimfdpkodcfbaa
