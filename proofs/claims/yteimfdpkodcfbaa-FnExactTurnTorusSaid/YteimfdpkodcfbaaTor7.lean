/- Turning a torus: the code's contract. Conditions: none. -/
import Derived.Test.YteimfdpkodcfbaaTor6
import Derived.Test.YteimfdpkodcfbaaLy1
namespace Go.Proofs.Yteimfdpkodcfbaa
open Go.RowKit Go.Maps
set_option linter.unusedVariables false
set_option maxRecDepth 4000

theorem ListsA.baseT {w : World} {B B' : Nat} {v : Value} {L : List (List Int)} (h : ListsA w B v L) (hb : B' ≤ B) : ListsA w B' v L := by
  obtain ⟨vs, a, b, c, d⟩ := h
  exact ⟨vs, a, ownsRow_mono b hb, fun i x y => (c i x y).mono hb, d⟩
theorem ListsA.nilT (w : World) (B : Nat) : ListsA w B (.slice none 0 0) [] := ⟨[], rfl, World.ownsRow_nil _ _ _ _, fun i h => absurd h (by simp), fun i j h => absurd h (by simp)⟩
theorem ttL_at {L : List (List Int)} {d r k i : Nat} (h : i < (ttL L d r k).length) : (ttL L d r k)[i] = arL (L.getD ((i + d) % L.length) []) r (16 / L.length) := by simp [ttL]
theorem bound_TurnTorus (L : List (List Int)) (d r : Int) : preLen (ttR L d r) (ttR L d r).length ≤ 1048576 := by
  cases h : ttO L d r with
  | false => rw [ttR_no h]; exact Nat.zero_le _
  | true =>
    have ho := h
    unfold ttO at ho
    rw [Bool.and_eq_true, Bool.and_eq_true] at ho
    have h1 := (tuB_iff.1 ho.1.1).n1
    rw [ttR_yes h, ttL_len]
    refine Nat.le_trans (preLen_le (c := 16) (fun l hl => ?_) _) (by omega)
    obtain ⟨i, hi, rfl⟩ := List.mem_map.1 hl
    rw [arL_len]; omega
set_option maxHeartbeats 4000000 in
theorem impl_TurnTorus_any (v : Value) (L : List (List Int)) (d r : Int) (w : World) (h : SitsL w v L) :
    Calls Try.prog 56 #[.agg #[v], .int .i64 d, .int .i64 r] w fun e w' => ∃ u, e = .returned (.tuple #[.agg #[u], .bool (ttO L d r)]) ∧ ListsA w' w.heap.size u (ttR L d r) ∧ Below w.heap.size w w' := by
  have HS := hid h
  obtain ⟨b, off, c0, rfl⟩ := sitsL_shape h
  obtain ⟨n, hn⟩ : ∃ n, n = L.length := ⟨_, rfl⟩
  have HN := hid hn
  obtain ⟨w1, hw1⟩ : ∃ w1, w1 = (w.alloc (.cells #[.slice (some ⟨b, off, none⟩) L.length c0] 48)).alloc (.cells #[.slice none 0 0] 48) := ⟨_, rfl⟩
  have hB1 : Below w.heap.size w w1 := by rw [hw1]; exact ((Below.refl _ _).alloc (Nat.le_refl _) _).alloc (sz_al9 (Nat.le_refl _) _) _
  have HB1 := hid hB1
  have HS1 := hid (show w1.heap.size = w.heap.size + 2 by rw [hw1]; simp)
  have HX1 := hid (show w1.cell? ⟨w.heap.size, 0, none⟩ = some (.slice (some ⟨b, off, none⟩) L.length c0) by rw [hw1]; simp)
  have HP1 := hid (show w1.rowIs (w.heap.size + 1) 48 1 (fun _ => .slice none 0 0) by rw [hw1]; exact slot_row _ _ _ (by simp))
  have HSI := hid (h.below hB1)
  have HW1 := hid hw1
  clear hw1 hB1 h
  have hcell : ∀ W, Below w1.heap.size w1 W → W.cell? ⟨w.heap.size, 0, none⟩ = some (.slice (some ⟨b, off, none⟩) L.length c0) ∧ W.rowIs (w.heap.size + 1) 48 1 (fun _ => .slice none 0 0) ∧ Below w.heap.size w W := fun W hb =>
    ⟨(hb.cell (p := ⟨w.heap.size, 0, none⟩) (by show w.heap.size < w1.heap.size; rw [HS1.out]; omega)).trans HX1.out, HP1.out.of_block (hb.block (w.heap.size + 1) (by rw [HS1.out]; omega)), Below_chain HB1.out hb⟩
  have HC := hid hcell
  rw [← hn] at HX1 HC HW1 HS HSI ⊢
  clear hcell hn
  cases hO : ttO L d r with
  | false =>
    have HF := hid (ttR_no hO)
    rw [HF.out]
    cases ht : tuB L with
    | false =>
      go_enter Try.func56, Try.ntmps56
      go_wp2_with (first
        | (go_at_call 106; (rw [← HW1.out]); (refine (numbersOf_any _ L _ HSI.out).mono ?_); (rintro e w2 ⟨u2, rfl, _, hb2⟩); (rw [ht]); (have hx := HC.out _ hb2); (have HX := hid hx); (have hr := hx.2.1); (have HR := hid hr); (have hc := hr.cell (i := 0) (by omega)); (have hf := hr.frozen 0); (clear hx hr hb2))
        | fail)
      have hs := row_same9 HR.out (i := 0) (by omega) (.slice none 0 0)
      exact bodyPost_ret (v := .tuple #[.agg #[.slice none 0 0], .bool false]) (by simp [results, Try.results56, hs, go_sem]; try rfl) rfl ⟨_, rfl, ListsA.nilT _ _, HX.out.2.2.setCell (p := ⟨w.heap.size + 1, 0, none⟩) (Nat.le_succ _) _⟩
    | true =>
      obtain ⟨c, hc⟩ : ∃ c, c = 16 / n := ⟨_, rfl⟩
      have HI := hid (show TuI L n c by rw [hc, HN.out]; exact tuB_iff.1 ht)
      have h1 := HI.out.n1
      have hqi : (16 : Int) / (n : Int) = (c : Int) := by rw [hc, Int.natCast_ediv]; rfl
      have hqi2 : (16 : Int).tdiv (n : Int) = (c : Int) := by rw [Int.tdiv_eq_ediv_of_nonneg (by omega), hqi]
      have hn0 : ¬ (n : Int) = 0 := by omega
      have hn0' : ((n : Int) == 0) = false := beq_eq_false_iff_ne.2 hn0
      have hdr : ¬ (0 ≤ d ∧ d < (n : Int) ∧ 0 ≤ r ∧ r < (c : Int)) := fun h => by
        have : ttO L d r = true := by
          unfold ttO
          rw [ht, ← HN.out, ← hc, inB_iff.2 (by omega), inB_iff.2 (by omega)]; rfl
        rw [this] at hO; cases hO
      clear hc
      by_cases d0 : d < 0
      · clear hdr
        go_enter Try.func56, Try.ntmps56
        go_wp2_with (first
          | (go_at_call 106; (rw [← HW1.out]); (refine (numbersOf_any _ L _ HSI.out).mono ?_); (rintro e w2 ⟨u2, rfl, _, hb2⟩); (rw [ht]); (have hx := HC.out _ hb2); (have HX := hid hx); (have hr := hx.2.1); (have HR := hid hr); (have hc := hr.cell (i := 0) (by omega)); (have hf := hr.frozen 0); (clear hx hr hb2))
          | fail)
        have hs := row_same9 HR.out (i := 0) (by omega) (.slice none 0 0)
        exact bodyPost_ret (v := .tuple #[.agg #[.slice none 0 0], .bool false]) (by simp [results, Try.results56, hs, go_sem]; try rfl) rfl ⟨_, rfl, ListsA.nilT _ _, HX.out.2.2.setCell (p := ⟨w.heap.size + 1, 0, none⟩) (Nat.le_succ _) _⟩
      by_cases d1 : (n : Int) ≤ d
      · clear hdr
        go_enter Try.func56, Try.ntmps56
        go_wp2_with (first
          | (go_at_call 106; (rw [← HW1.out]); (refine (numbersOf_any _ L _ HSI.out).mono ?_); (rintro e w2 ⟨u2, rfl, _, hb2⟩); (rw [ht]); (have hx := HC.out _ hb2); (have HX := hid hx); (have hr := hx.2.1); (have HR := hid hr); (have hc := hr.cell (i := 0) (by omega)); (have hf := hr.frozen 0); (clear hx hr hb2))
          | fail)
        have hs := row_same9 HR.out (i := 0) (by omega) (.slice none 0 0)
        exact bodyPost_ret (v := .tuple #[.agg #[.slice none 0 0], .bool false]) (by simp [results, Try.results56, hs, go_sem]; try rfl) rfl ⟨_, rfl, ListsA.nilT _ _, HX.out.2.2.setCell (p := ⟨w.heap.size + 1, 0, none⟩) (Nat.le_succ _) _⟩
      by_cases r0 : r < 0
      · clear hdr
        go_enter Try.func56, Try.ntmps56
        go_wp2_with (first
          | (go_at_call 106; (rw [← HW1.out]); (refine (numbersOf_any _ L _ HSI.out).mono ?_); (rintro e w2 ⟨u2, rfl, _, hb2⟩); (rw [ht]); (have hx := HC.out _ hb2); (have HX := hid hx); (have hr := hx.2.1); (have HR := hid hr); (have hc := hr.cell (i := 0) (by omega)); (have hf := hr.frozen 0); (clear hx hr hb2))
          | fail)
        have hs := row_same9 HR.out (i := 0) (by omega) (.slice none 0 0)
        exact bodyPost_ret (v := .tuple #[.agg #[.slice none 0 0], .bool false]) (by simp [results, Try.results56, hs, go_sem]; try rfl) rfl ⟨_, rfl, ListsA.nilT _ _, HX.out.2.2.setCell (p := ⟨w.heap.size + 1, 0, none⟩) (Nat.le_succ _) _⟩
      have r1 : (c : Int) ≤ r := by omega
      clear hdr
      go_enter Try.func56, Try.ntmps56
      go_wp2_with (first
        | (go_at_call 106; (rw [← HW1.out]); (refine (numbersOf_any _ L _ HSI.out).mono ?_); (rintro e w2 ⟨u2, rfl, _, hb2⟩); (rw [ht]); (have hx := HC.out _ hb2); (have HX := hid hx); (have hr := hx.2.1); (have HR := hid hr); (have hc := hr.cell (i := 0) (by omega)); (have hf := hr.frozen 0); (clear hx hr hb2))
        | fail)
      have hs := row_same9 HR.out (i := 0) (by omega) (.slice none 0 0)
      exact bodyPost_ret (v := .tuple #[.agg #[.slice none 0 0], .bool false]) (by simp [results, Try.results56, hs, go_sem]; try rfl) rfl ⟨_, rfl, ListsA.nilT _ _, HX.out.2.2.setCell (p := ⟨w.heap.size + 1, 0, none⟩) (Nat.le_succ _) _⟩
  | true =>
    have ho := hO
    unfold ttO at ho
    rw [Bool.and_eq_true, Bool.and_eq_true] at ho
    obtain ⟨⟨ht, hd⟩, hr⟩ := ho
    have HTT := hid ht
    obtain ⟨c, hc⟩ : ∃ c, c = 16 / n := ⟨_, rfl⟩
    have HI := hid (show TuI L n c by rw [hc, HN.out]; exact tuB_iff.1 ht)
    have h1 := HI.out.n1
    have hqi : (16 : Int) / (n : Int) = (c : Int) := by rw [hc, Int.natCast_ediv]; rfl
    have hqi2 : (16 : Int).tdiv (n : Int) = (c : Int) := by rw [Int.tdiv_eq_ediv_of_nonneg (by omega), hqi]
    have hn0 : ¬ (n : Int) = 0 := by omega
    have hn0' : ((n : Int) == 0) = false := beq_eq_false_iff_ne.2 hn0
    rw [← HN.out] at hd hr
    rw [← hc] at hr
    have HF := hid (ttR_yes hO)
    rw [← HN.out] at HF
    have hd2 := inB_iff.1 hd
    have hr2 := inB_iff.1 hr
    obtain ⟨D, rfl⟩ : ∃ D : Nat, d = (D : Int) := ⟨d.toNat, by omega⟩
    obtain ⟨R, rfl⟩ : ∃ R : Nat, r = (R : Int) := ⟨r.toNat, by omega⟩
    rw [HF.out]
    simp only [Int.toNat_natCast]
    have d0 : ¬ (D : Int) < 0 := by omega
    have d1 : ¬ (n : Int) ≤ (D : Int) := by omega
    have r0 : ¬ (R : Int) < 0 := by omega
    have r1 : ¬ (c : Int) ≤ (R : Int) := by omega
    have d0d : decide ((D : Int) < 0) = false := decide_eq_false d0
    have d1d : decide (n ≤ D) = false := decide_eq_false (by omega)
    have r1d : decide (c ≤ R) = false := decide_eq_false (by omega)
    have r0d : decide ((R : Int) < 0) = false := decide_eq_false r0
    obtain ⟨M, hM⟩ : ∃ M, M = ttL L D R n := ⟨_, rfl⟩
    have HML := hid (show M.length = n by rw [hM]; exact ttL_len _ _ _ _)
    have HMA := hid (show ∀ i (h : i < M.length), M[i] = arL (L.getD ((i + D) % n) []) R c by
      intro i h
      subst hM
      rw [ttL_at h, hc, ← HN.out])
    rw [← hM]
    clear hc ht hd hr hO HF hM
    go_enter Try.func56, Try.ntmps56
    go_wp2_with (first
      | (go_at_call 106; (rw [← HW1.out]); (refine (numbersOf_any _ L _ HSI.out).mono ?_); (rintro e w2 ⟨u2, rfl, _, hb2⟩); (rw [HTT.out]); (have HB2 := hid hb2); (have hmk := run_make_intss n (by omega) w2); (have hr0 := World.rowIs_made w2 (.slice none 0 0) n 22); (have HR0 := hid hr0); (clear hr0); (clear hb2))
      | fail)
    obtain ⟨G, hG⟩ : ∃ G, G = w2.heap.size := ⟨_, rfl⟩
    rw [← hG] at HR0 hmk ⊢
    obtain ⟨wm, hwm⟩ : ∃ wm, wm = w2.alloc (.cells (madeCells #[.slice none 0 0] n) 22) := ⟨_, rfl⟩
    have hsm : wm.heap.size = G + 1 := by rw [hwm, hG]; simp
    have hbm : Below w1.heap.size w1 wm := by rw [hwm]; exact HB2.out.alloc HB2.out.size _
    rw [← hwm] at HR0 hmk ⊢
    obtain ⟨w3, hw3⟩ : ∃ w3, w3 = wm.alloc (.cells #[.slice (some ⟨G, 0, none⟩) n n] 48) := ⟨_, rfl⟩
    have hb3 : Below wm.heap.size wm w3 := by rw [hw3]; exact (Below.refl _ _).alloc (Nat.le_refl _) _
    have HB3 := hid (show Below w1.heap.size w1 w3 from Below_chain hbm hb3)
    have HG := hid (show w1.heap.size ≤ G by rw [hG]; exact HB2.out.size)
    have HS3 := hid (show w3.heap.size = G + 2 by rw [hw3]; simp [hsm])
    have HX3 := hid (show w3.cell? ⟨G + 1, 0, none⟩ = some (.slice (some ⟨G, 0, none⟩) n n) by rw [hw3, ← hsm]; simp)
    have HR3 := hid (HR0.out.of_block (hb3.block G (by omega)))
    rw [← hw3]
    clear hmk hG hwm hsm hbm hw3 hb3 HR0
    go_loopw [12, 49] (fun _ i wr => ∃ (k : Nat) (U : Nat → Value), i = .int .i64 (k : Int) ∧ k ≤ n ∧ wr.rowIs G 22 n U ∧ Filled wr G U M k ∧ wr.cell? ⟨G + 1, 0, none⟩ = some (.slice (some ⟨G, 0, none⟩) n n) ∧ G + 2 ≤ wr.heap.size ∧ Below w1.heap.size w1 wr) (fun _ i _ => n - (intOf i).toNat)
    case atStart => exact ⟨0, _, rfl, Nat.zero_le _, HR3.out, Filled.zero _ _ _ _, HX3.out, by rw [HS3.out]; exact Nat.le_refl _, HB3.out⟩
    case round =>
      obtain ⟨k, U, rfl, hk, hrow, hfil, hcG, hszr, hbel⟩ := hrel
      have HROW := hid hrow
      have HFIL := hid hfil
      have HB := hid hbel
      have hx := HC.out _ hbel
      have HX := hid hx
      have HCG := hid hcG
      by_cases hlt : k < n
      · obtain ⟨m, hm⟩ : ∃ m, m = (k + D) % n := ⟨_, rfl⟩
        have hmn : m < n := by rw [hm]; exact Nat.mod_lt _ (by omega)
        obtain ⟨bi, oi, ci, ht0⟩ := HI.out.trow (HS.out.below hx.2.2) hmn
        have x0 := hx.1
        have y0 := ht0.cell
        have hq0 : (0 : Int) ≤ (m : Int) := by omega
        have hq1 : (m : Int) < (n : Int) := by omega
        have hk0 : (0 : Int) ≤ (k : Int) := by omega
        have hk1 : (k : Int) < (n : Int) := by omega
        have e1 : IntKind.i64.wrap ((k : Int) + (D : Int)) = (k : Int) + (D : Int) := IntWalk.i64_in _ (by omega)
        have e2 : ((k : Int) + (D : Int)) % (n : Int) = (m : Int) := by rw [hm, Int.natCast_emod, Int.natCast_add]
        have e3 : ((k : Int) + (D : Int)).tmod (n : Int) = (m : Int) := by rw [Int.tmod_eq_emod_of_nonneg (by omega), e2]
        have e5 : ¬ n = 0 := by omega
        have e6 : IntKind.i64.wrap (m : Int) = (m : Int) := IntWalk.i64_in _ (by omega)
        have e7 : IntKind.i64.wrap (k : Int) = (k : Int) := IntWalk.i64_in _ (by omega)
        have hrowL := HI.out.row m hmn
        obtain ⟨lm, hlm⟩ : ∃ lm, lm = L.getD m [] := ⟨_, rfl⟩
        have hsit : Sits wr (.slice (some ⟨bi, oi, none⟩) c ci) lm := by
          exact ⟨bi, oi, ci, by rw [hlm, hrowL], by rw [hlm, hrowL]; exact ht0.cap, ht0.capm, ht0.lt, fun i hi => by
            have hi2 : i < c := by rw [hlm, hrowL] at hi; exact hi
            rw [ht0.at' i hi2]
            subst hlm
            rw [List.getD_eq_getElem?_getD, List.getElem?_eq_getElem hi]; rfl⟩
        have HSR := hid (hsit.below (Below.refl wr.heap.size wr).drew)
        have hlc : lm.length = c := by rw [hlm, hrowL]
        have HLC := hid hlc
        have HMK := hid (show ∀ h : k < M.length, M[k] = arL lm R c from fun h => by rw [HMA.out k h, ← hm, ← hlm])
        have l1 : 1 ≤ lm.length := by omega
        have l2 : lm.length ≤ 1048576 := by omega
        have l3 : R ≤ 1048576 := by omega
        have hcr := hrow.cell hlt
        have hfr := hrow.frozen k
        have y00 := cell_belowT y0 (Below.refl wr.heap.size wr).drew
        clear hrowL hlm hlc hsit ht0 hm hx hrow hfil hbel
        go_wp2_with fail
        go_region_law
          (first
            | (go_simp; go_at_call 113; refine (rotated_any _ lm R _ HSR.out l3 l1 l2).mono ?_; rintro e w5 ⟨rfl, ho5, hb5⟩; rw [HLC.out] at ho5; rw [HLC.out]; have HO5 := hid ho5; have hb6 : Below wr.heap.size wr w5 := (Below.refl _ _).drew.trans hb5; have HB5 := hid hb6; have HR5 := hid (HROW.out.of_block (hb6.block G (by omega))); have hc5 := HR5.out.cell hlt; have hf5 := HR5.out.frozen k; have z0 := cell_belowT x0 hb6; have z1 := cell_belowT y0 hb6; have z2 := cell_belowT hcG hb6; clear ho5 hb5 hb6)
            | fail)
        all_goals
          have HGS := hid (grownBy_setCellAt w5 G k (.slice (some ⟨wr.heap.size, 0, none⟩) c c))
          have HR6 := hid (HR5.out.set k (.slice (some ⟨wr.heap.size, 0, none⟩) c c))
          have HON := hid ((HO5.out.mono (show G + 1 ≤ wr.drew.heap.size from Nat.le_trans (by omega) hszr)).kept HGS.out (.inr (by show some wr.heap.size ≠ some G; simp only [ne_eq, Option.some.injEq]; omega)))
          have HF6 := hid (Filled.step (u := .slice (some ⟨wr.heap.size, 0, none⟩) c c) HFIL.out ((HFIL.out.below HB5.out).kept HGS.out) (by rw [HML.out]; exact hlt) (by rw [HMK.out]; exact HON.out) (fun q hq => by simp only [Value.ownBlock, Option.some.injEq] at hq; omega))
          have HB6 := hid ((Below_chain HB.out HB5.out).setCell (p := ⟨G, k, none⟩) HG.out (.slice (some ⟨wr.heap.size, 0, none⟩) c c))
          have HC6 := hid (show (w5.setCell ⟨G, k, none⟩ (.slice (some ⟨wr.heap.size, 0, none⟩) c c)).cell? ⟨G + 1, 0, none⟩ = some (.slice (some ⟨G, 0, none⟩) n n) by
            rw [World.cell?_setCell_far _ _ _ _ (by simp)]
            exact z2)
          have hs5 := HB5.out.size
          clear x0 y0 y00 z0 z1 z2 hcr hfr hc5 hf5
          go_wp2_with fail
          go_roundw
          case rel => exact ⟨k + 1, _, by go_num, hlt, HR6.out, HF6.out, HC6.out, by simp; omega, HB6.out⟩
          case measure => simp [intOf]; omega
      · obtain rfl : k = n := by omega
        have hr := HX.out.2.1
        have HR := hid hr
        have hc := hr.cell (i := 0) (by omega)
        have hf := hr.frozen 0
        have HLU := hid ((HFIL.out.listsU HROW.out HML.out (by unfold maxLen; omega)).listsA)
        clear hr hrow hfil hx
        go_wp2_with fail
        have hs := row_same9 HR.out (i := 0) (by omega) (.slice (some ⟨G, 0, none⟩) k k)
        exact bodyPost_ret (v := .tuple #[.agg #[.slice (some ⟨G, 0, none⟩) k k], .bool true]) (by simp [results, Try.results56, hs, go_sem]; try rfl) rfl ⟨_, rfl, (HLU.out.stay (fun q h1 h2 => Below.heap_setCell _ _ _ _ (by have := HG.out; have := HS1.out; simp; omega))).baseT (by have := HG.out; have := HS1.out; omega), HX.out.2.2.setCell (p := ⟨w.heap.size + 1, 0, none⟩) (Nat.le_succ _) _⟩
end Go.Proofs.Yteimfdpkodcfbaa
