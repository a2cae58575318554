/- Contracts: impl.DistancesFrom, countRelated at isAtLeast, impl.ReachCount. Conditions: the slice reads as a list of moves. -/
import Derived.Test.YteenmndgejeihaaDsF
import Derived.Test.YteenmndgejeihaaRep
import Derived.Test.YteenmndgejeihaaPrk
import Derived.Test.YteenmndgejeihaaMvI7
namespace Go.Proofs.Yteenmndgejeihaa
open Go.RowKit
set_option linter.unusedVariables false
set_option maxRecDepth 4000

theorem fact_cases {N : Nat} (h1 : 1 ≤ N) (h5 : N ≤ 5) : fact N ≤ 12 ∨ fact N = 24 ∨ fact N = 120 := by
  have : N = 1 ∨ N = 2 ∨ N = 3 ∨ N = 4 ∨ N = 5 := by omega
  rcases this with rfl | rfl | rfl | rfl | rfl <;> decide
abbrev W8of (w7 : World) (gd ix : Nat) (u : Int) : World := w7.setCell ⟨gd, ix, none⟩ (.int .i64 u)
theorem new_cellN {u : Value} {w : World} {z : Value} {T : TypeId} {n : Nat} (h : w.heap.size = n) (j : Nat) (hj : [z][j]? = some u) : (w.alloc (.cells #[z] T)).cell? ((⟨n, 0, none⟩ : Addr).add j) = some u := by
  subst h
  exact new_cellV j hj
theorem W8_size {w7 : World} {gd ix : Nat} {u : Int} {xs : List Int} {F : Nat} (h : Own w7 gd (.slice (some ⟨gd, 0, none⟩) F F) xs) : (W8of w7 gd ix u).heap.size = w7.heap.size := by simp [W8of]
theorem ds_store {w2 w7 : World} {gd F gq cq g5 n5 c5 ix : Nat} {u : Int} {O x : List Int} {R : List (List Int)} (h : Own w7 gd (.slice (some ⟨gd, 0, none⟩) F F) O) (hl : Lists w7 (gd + 1) (.slice (some ⟨gq, 0, none⟩) R.length cq) R) (hx : Own w7 (gd + 1) (.slice (some ⟨g5, 0, none⟩) n5 c5) x) (hb : Below gd w2 w7) :
    ∃ vs, vs.length = R.length ∧ (W8of w7 gd ix u).ownsRow (gd + 1) 22 1 (.slice (some ⟨gq, 0, none⟩) R.length cq) R.length vs ∧ (∀ i (h1 : i < R.length) (h2 : i < vs.length), Own (W8of w7 gd ix u) (gd + 1) vs[i] R[i]) ∧
      Own (W8of w7 gd ix u) gd (.slice (some ⟨gd, 0, none⟩) F F) (O.set ix u) ∧ Own (W8of w7 gd ix u) (gd + 1) (.slice (some ⟨g5, 0, none⟩) n5 c5) x ∧ Below gd w2 (W8of w7 gd ix u) ∧ gd + 1 ≤ ((W8of w7 gd ix u).alloc (.cells #[.slice (some ⟨g5, 0, none⟩) n5 c5] 22)).heap.size := by
  have hst := h.setN ix u
  have hgd := (World.ownsRow.lt h gd rfl).2
  have hs : w7.heap.size ≤ (W8of w7 gd ix u).heap.size := hst.2.size
  obtain ⟨vs, h1, h2, h3⟩ := hl.stayM (w' := W8of w7 gd ix u) (fun q h1 h2 => hst.2.block q h2 (by simp only [ne_eq, Option.some.injEq]; omega))
  exact ⟨vs, h1, h2, h3, hst.1, hx.stayM (w' := W8of w7 gd ix u) (fun q h1 h2 => hst.2.block q h2 (by simp only [ne_eq, Option.some.injEq]; omega)), hb.setCell (p := ⟨gd, ix, none⟩) (Nat.le_refl _) (.int .i64 u), Nat.le_trans (show gd + 1 ≤ (W8of w7 gd ix u).heap.size by omega) (sz_al (Nat.le_refl _) _)⟩
theorem ds_push {w2 w8 w9 : World} {gd F gq cq g5 n5 c5 : Nat} {v9 : Value} {O x : List Int} {R : List (List Int)} {vs : List Value} (h1 : vs.length = R.length) (h2 : w8.ownsRow (gd + 1) 22 1 (.slice (some ⟨gq, 0, none⟩) R.length cq) R.length vs) (h3 : ∀ i (h1 : i < R.length) (h2 : i < vs.length), Own w8 (gd + 1) vs[i] R[i])
    (ho : Own w8 gd (.slice (some ⟨gd, 0, none⟩) F F) O) (hx : Own w8 (gd + 1) (.slice (some ⟨g5, 0, none⟩) n5 c5) x) (hb : Below gd w2 w8) (hown : w9.ownsRow (gd + 1) 22 1 v9 (R.length + 1) (vs ++ [.slice (some ⟨g5, 0, none⟩) n5 c5]))
    (hg : (w8.alloc (.cells #[.slice (some ⟨g5, 0, none⟩) n5 c5] 22)).grownBy w9 (Value.slice (some ⟨gq, 0, none⟩) R.length cq).ownBlock) : Own w9 gd (.slice (some ⟨gd, 0, none⟩) F F) O ∧ Lists w9 (gd + 1) v9 (R ++ [x]) ∧ Below gd w2 w9 := by
  have hgd := (World.ownsRow.lt ho gd rfl).2
  have ha : Below w8.heap.size w8 (w8.alloc (.cells #[.slice (some ⟨g5, 0, none⟩) n5 c5] 22)) := (Below.refl _ _).alloc (Nat.le_refl _) _
  have hr := World.ownsRow.alloc h2 (.cells #[.slice (some ⟨g5, 0, none⟩) n5 c5] 22)
  refine ⟨Own.kept_type (ho.below ha) (T := 22) (by decide) hr hg, Lists_push h1 hr (fun i a b => (h3 i a b).below ha) (hx.below ha) hown hg, (hb.alloc (by omega) _).grown hg (sz_al (by omega) _) (fun q hq => ?_)⟩
  have := (World.ownsRow.lt h2 q hq).1
  omega
set_option maxHeartbeats 1000000 in
theorem impl_DistancesFrom_any (n : Int) (v : Value) (ms : List Mv) (w : World) (hm : ReadsM w v ms) :
    Calls Try.prog 61 #[.int .i64 n, v] w fun e w' => ∃ r, e = .returned (.tuple #[r, .bool (tkB n ms)]) ∧ Own w' w.heap.size r (dfRes n ms) ∧ Below w.heap.size w w' := by
  have HRM := hid hm
  obtain ⟨ao, cm, rfl, hcm, hcmm, hmd⟩ := hm
  unfold maxLen at hcmm
  clear hmd
  cases ht : tkB n ms with
  | false =>
    have HT := hid ht
    have HR := hid (show dfRes n ms = [] by rw [dfRes, if_neg (by rw [ht]; simp)])
    clear ht
    go_enter Try.func61, Try.ntmps61
    go_wp2_with (first | (go_at_call 91; refine (moversOf_any n _ ms _ HRM.out).mono ?_; rintro e w1 ⟨u1, rfl, _, hb1⟩; rw [HT.out]; have HB1 := hid hb1; clear hb1) | fail)
    go_ret2
    exact ⟨_, rfl, by rw [HR.out]; exact Own.nil _ _, HB1.out⟩
  | true =>
    have HT := hid ht
    obtain ⟨h1, h5, h12, hg⟩ := tk_parts ht
    obtain ⟨N, rfl⟩ : ∃ N : Nat, n = (N : Int) := ⟨n.toNat, by omega⟩
    have HG := hid hg
    have HR := hid (show dfRes N ms = dsL N ms by rw [dfRes, if_pos ht]; rfl)
    have hF4 := fact_cases (N := N) (by omega) (by omega)
    have hF0 := fact_pos3 N
    obtain ⟨F, hFF⟩ : ∃ F, F = fact N := ⟨_, rfl⟩
    have HFF := hid hFF
    rw [← hFF] at hF4 hF0
    obtain ⟨j0, hj, hy0, hy1, hy2⟩ := info_parts Try.infoL
    clear hg ht hFF
    go_enter Try.func61, Try.ntmps61
    go_wp2_with (first
      | (go_at_call 91; refine (moversOf_any _ _ ms _ HRM.out).mono ?_; rintro e w1 ⟨u1, rfl, hmv, hb1⟩; obtain ⟨gm, rfl, hrm, _⟩ := hmv HT.out; rw [HT.out]; have HRM1 := hid hrm; have HB1 := hid hb1; clear hb1 hmv hrm)
      | (go_at_call 67; refine (factorial_any N _ (by omega)).mono ?_; rintro e w2 ⟨rfl, rfl⟩; rw [← HFF.out])
      | fail)
    have HA1 := hid ((Below.refl w1.heap.size w1).alloc (Nat.le_refl _) (.cells #[.int .i64 (-1)] 3))
    have HC1 := hid (show (w1.alloc (.cells #[.int .i64 (-1)] 3)).cell? ⟨w1.heap.size, 0, none⟩ = some (.int .i64 (-1)) by simp)
    have HZ1 := hid (show w1.heap.size < (w1.alloc (.cells #[.int .i64 (-1)] 3)).heap.size by simp)
    refine (Repeat_any (-1) w1.heap.size F hF4 _ HC1.out HZ1.out).mono ?_
    rintro e w2 ⟨rfl, ho2, hb2⟩
    have HRM2 := hid (RowMv.below (RowMv.below HRM1.out HA1.out) hb2)
    have hgm := World.rowIs.lt HRM1.out
    have hw1 := HB1.out.size
    have HB2 := hid (Below_chain HB1.out (Below_chain HA1.out hb2))
    obtain ⟨gd, hgd⟩ : ∃ g, g = (w1.alloc (.cells #[.int .i64 (-1)] 3)).heap.size := ⟨_, rfl⟩
    rw [← hgd] at ho2 HZ1 ⊢
    have hz1 := HZ1.out
    have hg0 : w.heap.size ≤ gd := by omega
    have hgmd : gm < gd := by omega
    obtain ⟨hc0, hf0⟩ := ho2.at0 (i := 0) (by rw [List.length_replicate]; exact hF0)
    have hgd2 := (World.ownsRow.lt ho2 gd rfl).2
    have HO3 := hid (ho2.setN 0 0)
    have HB3 := hid ((Below.refl gd w2).setCell (p := ⟨gd, 0, none⟩) (Nat.le_refl _) (.int .i64 0))
    have hF00 : (0 : Int) < (F : Int) := by omega
    clear ho2 hb2 hgd
    go_wp2_with fail
    obtain ⟨w3, hw3⟩ : ∃ w3, w3 = w2.setCell ⟨gd, 0, none⟩ (.int .i64 0) := ⟨_, rfl⟩
    rw [← hw3] at HO3 HB3 ⊢
    have hgd3 : gd < w3.heap.size := by rw [hw3]; exact (World.ownsRow.lt (hw3 ▸ HO3.out.1) gd rfl).2
    clear hc0 hf0 hw3
    refine (firstNumbers_any N _ (by omega)).mono ?_
    rintro e w4 ⟨rfl, ho4, hb4⟩
    have hs4 := hb4.size
    have HO4 := hid (HO3.out.1.below hb4)
    have HL5 := hid (Lists_lit4 (ho4.mono (show gd + 1 ≤ w3.heap.size by omega)) (show gd + 1 ≤ w4.heap.size by omega))
    have hba := (Below.refl w4.heap.size w4).alloc (Nat.le_refl _) (.cells #[.slice (some ⟨w3.heap.size, 0, none⟩) N N] 22)
    have HO5 := hid (HO4.out.below hba)
    have HB5 := hid ((HB3.out.trans (hb4.mono (by omega))).trans (hba.mono (by omega)))
    obtain ⟨w5, hw5⟩ : ∃ w5, w5 = w4.alloc (.cells #[.slice (some ⟨w3.heap.size, 0, none⟩) N N] 22) := ⟨_, rfl⟩
    go_wp2_with fail
    rw [← hw5] at HL5 HO5 HB5 ⊢
    clear hw5 hba ho4 hb4
    have HS0 := hid (show ds0 N = ((List.replicate F (-1)).set 0 0, [upTo N]) by rw [ds0, ← HFF.out])
    obtain ⟨s0, hs0⟩ : ∃ s0 : DS, s0 = ((List.replicate F (-1)).set 0 0, [upTo N]) := ⟨_, rfl⟩
    have HO6 := hid (show Own w5 gd (.slice (some ⟨gd, 0, none⟩) F F) s0.1 by rw [hs0]; exact HO5.out)
    have HL6 := hid (show Lists w5 (gd + 1) (.slice (some ⟨w4.heap.size, 0, none⟩) 1 1) s0.2 by rw [hs0]; exact HL5.out)
    rw [← hs0] at HS0
    clear hs0
    go_loopw [9, 10] (fun rv i wr => ∃ (f k : Nat) (s : DS), k + f = 121 ∧ k ≤ s.2.length ∧ i = .int .i64 k ∧ DI N s ∧ dsRun ms 121 0 (ds0 N) = dsRun ms f k s ∧ Own wr gd (.slice (some ⟨gd, 0, none⟩) F F) s.1 ∧ Lists wr (gd + 1) rv s.2 ∧ Below gd w2 wr) (fun _ i _ => 121 - (intOf i).toNat)
    case atStart => exact ⟨121, 0, s0, rfl, Nat.zero_le _, rfl, by rw [← HS0.out]; exact DI_first N, by rw [HS0.out], HO6.out, HL6.out, HB5.out⟩
    case round =>
      obtain ⟨f, k, s, hkf, hks, rfl, hdi, heq, hown, hli, hbel⟩ := hrel
      have HDI := hid hdi
      have HEQ := hid heq
      have HON := hid hown
      have HLI := hid hli
      have HBE := hid hbel
      have hlen := hdi.2.1.len (by omega)
      rcases hli.form with ⟨_, hn⟩ | ⟨gr, cr, rfl, hgH, hgr, hcr1, hcrm, hcl⟩
      · have := hdi.2.1.1
        rw [hn] at this
        simp at this
      by_cases hlt : k < s.2.length
      · obtain ⟨f', rfl⟩ : ∃ f', f = f' + 1 := ⟨f - 1, by omega⟩
        have HON1 := hid (heq.trans (dsRun_on hlt f'))
        clear hdi heq hown hli hbel hcl
        obtain ⟨wo, rfl⟩ : ∃ wo : World, wo = wr := ⟨_, rfl⟩
        go_wp2_with fail
        go_loopw [9, 40] (fun rv i wr => ∃ (t : Nat) (O : List Int) (R : List (List Int)), t ≤ ms.length ∧ i = .int .i64 t ∧ DI N (O, R) ∧ k < R.length ∧ dsRow ms k 0 ms.length s = dsRow ms k t (ms.length - t) (O, R) ∧ Own wr gd (.slice (some ⟨gd, 0, none⟩) F F) O ∧ Lists wr (gd + 1) rv R ∧ Below gd w2 wr) (fun _ i _ => ms.length - (intOf i).toNat)
        case atStart => exact ⟨0, s.1, s.2, Nat.zero_le _, rfl, HDI.out, hlt, rfl, HON.out, HLI.out, HBE.out⟩
        case round =>
          obtain ⟨t, O, R, htl, rfl, hdi, hkR, heq, hown, hli, hbel⟩ := hrel
          have HDI2 := hid hdi
          have HON2 := hid hown
          have HLI2 := hid hli
          have HBE2 := hid hbel
          have hRl := hdi.2.1.len (by omega)
          simp only at hRl
          rcases hli.form with ⟨_, hn⟩ | ⟨gq, cq, rfl, hgH2, hgq, hcq1, hcqm, hcl⟩
          · rw [hn] at hkR; simp at hkR
          by_cases hlt2 : t < ms.length
          · have HRMV := hid (World.rowIs.of_block HRM2.out (hbel.block gm hgmd))
            obtain ⟨T, X, hV⟩ := mvV_iface (mGet ms t)
            have hcm2 : wr.cell? ⟨gm, t, none⟩ = some (.iface T X) := by rw [← hV]; exact HRMV.out.cell hlt2
            have hmt := HG.out t hlt2
            have hxP := dsX_PN hdi hkR hmt
            have hst := DI_step (t := t) hdi hkR hmt
            obtain ⟨z, hz, hzo⟩ := hcl k hkR
            obtain ⟨d, hd⟩ : ∃ d, d = R.getD k [] := ⟨_, rfl⟩
            have hd2 : d = R[k] := by rw [hd, getDM hkR]
            have hdP : PN N d := by rw [hd2]; exact hdi.2.1.2.2 _ (List.getElem_mem _)
            have hdn := hdi.2.2.1 d (by rw [hd2]; exact List.getElem_mem _)
            rw [← hd2] at hzo
            obtain ⟨x, hx⟩ : ∃ x, x = mvM (mGet ms t) d := ⟨_, rfl⟩
            have HX := hid hx
            have hX : dsX ms k t (O, R) = x := by rw [dsX, hx, hd]
            rw [hX] at hxP
            have hdl := hdP.len
            have hxl := hxP.len
            have hrx : rankR x < O.length := by rw [hdi.1]; exact rk_lt hxP
            have hrd : rankR d < O.length := by rw [hdi.1]; exact rk_lt hdP
            have hOl : O.length = F := by rw [hdi.1, HFF.out]
            have hry := hdi.2.2.2 _ hrx
            have hrdy := hdi.2.2.2 _ hrd
            obtain ⟨ix, hix⟩ : ∃ ix, ix = rankR x := ⟨_, rfl⟩
            obtain ⟨id, hid2⟩ : ∃ id, id = rankR d := ⟨_, rfl⟩
            have HIX := hid hix
            have HID := hid hid2
            obtain ⟨y, hy⟩ : ∃ y, y = O.getD ix 0 := ⟨_, rfl⟩
            obtain ⟨yd, hyd⟩ : ∃ yd, yd = O.getD id 0 := ⟨_, rfl⟩
            rw [← hix, ← hy] at hry
            rw [← hid2, ← hyd] at hrdy hdn
            rw [← hix] at hrx
            rw [← hid2] at hrd
            simp only at hry hrdy hdn
            have HY := hid hy
            have HYD := hid hyd
            have HM := hid (show mvB (d.length : Int) (mGet ms t).1 (mGet ms t).2.1 (mGet ms t).2.2 = true by rw [hdl]; exact hmt)
            have HSTN := hid (show y < 0 → dsStep ms k t (O, R) = (O.set ix (yd + 1), R ++ [x]) from fun hneg => by
              rw [dsStep_new (by rw [hX]; show O.getD (rankR x) 0 < 0; rw [← hix, ← hy]; exact hneg), hX]
              show (O.set (rankR x) (O.getD (rankR (R.getD k [])) 0 + 1), R ++ [x]) = _
              rw [← hd, ← hix, ← hid2, ← hyd])
            have HSTO := hid (show ¬ y < 0 → dsStep ms k t (O, R) = (O, R) from fun hneg => dsStep_old (by rw [hX]; show ¬ O.getD (rankR x) 0 < 0; rw [← hix, ← hy]; exact hneg))
            have HSTI := hid hst
            have HR1 := hid (show dsRow ms k 0 ms.length s = dsRow ms k (t + 1) (ms.length - (t + 1)) (dsStep ms k t (O, R)) by
              rw [heq, show ms.length - t = (ms.length - (t + 1)) + 1 by omega]; rfl)
            have hd0 : 0 < d.length := by omega
            have hx0 : 0 < x.length := by omega
            have HZ := hid hzo
            have HZS := hid (hzo.sits5 hd0)
            obtain ⟨az, cz, hze⟩ := hzo.slice4
            subst hze
            have HCON := hid (show ∀ (v : Value) (W : World), Sits W v d → Calls Try.prog 80 #[.iface T X, v] W (fun e w' => ∃ g5 n5 c5, e = .returned (.slice (some ⟨g5, 0, none⟩) n5 c5) ∧ Own w' W.heap.size (.slice (some ⟨g5, 0, none⟩) n5 c5) x ∧ Below W.heap.size W w') from fun v W h => by
              rw [← hV]
              refine (movedBy_any (mGet ms t) v d W h (by omega) HM.out).mono ?_
              rintro e w' ⟨rfl, hr, hb⟩
              exact ⟨_, _, _, rfl, by rw [HX.out]; exact RowL.own hr (mvM_len _ _) (by omega), hb⟩)
            have q1 : (0 : Int) ≤ (t : Int) := by omega
            have q2 : (t : Int) < (ms.length : Int) := by omega
            have q3 : (0 : Int) ≤ (k : Int) := by omega
            have q4 : (k : Int) < (R.length : Int) := by omega
            have hd12 : d.length ≤ 12 := by omega
            have hx12 : x.length ≤ 12 := by omega
            have hix0 : (0 : Int) ≤ (ix : Int) := by omega
            have hix1 : (ix : Int) < (F : Int) := by omega
            have hid0 : (0 : Int) ≤ (id : Int) := by omega
            have hid1 : (id : Int) < (F : Int) := by omega
            have HRX := hid hrx
            have HRYY := hid (And.intro hry hrdy)
            have HDN := hid hdn
            have hgw : gd < wr.heap.size := (World.ownsRow.lt hown gd rfl).2
            have hcyw := (hown.at0 (i := ix) hrx).1
            have hcydw := (hown.at0 (i := id) hrd).1
            rw [← HY.out] at hcyw
            rw [← HYD.out] at hcydw
            have hidx : y < 0 → id ≠ ix := fun hneg e => by
              have e1 := HY.out
              have e2 := HYD.out
              rw [e] at e2
              omega
            have HIDX := hid hidx
            clear hdi heq hown hli hbel hcl hmt hxP hst hX hzo hd hd2 hdP hx hix hid2 hy hyd hdl hxl hOl hry hrdy hdn hrx hrd hV hidx
            by_cases hneg : y < 0
            · have HST := hid (HSTN.out hneg)
              have hyd1 : IntKind.i64.wrap (yd + 1) = yd + 1 := IntWalk.i64_in _ (by have := HRYY.out; have := HDN.out; omega)
              have hR1 : R.length + 1 ≤ maxLen := by unfold maxLen; omega
              have hR2 : (R.length + 1) * 24 ≤ 140737488355328 := by omega
              go_wp2_with (first
                | (go_at_call 80; refine (HCON.out _ _ HZS.out).mono ?_; rintro e w7 ⟨g5, n5, c5, rfl, ho7, hb7⟩; have HX7 := hid (ho7.mono (show gd + 1 ≤ wr.heap.size by omega)); have HSX7 := hid ho7.sits; have HO7 := hid (HON2.out.below hb7); have HL7 := hid (HLI2.out.below hb7); have HB7 := hid (HBE2.out.trans (hb7.mono (by omega))); have hcy7 := cell_below2 hcyw hb7; have hcyd7 := cell_below2 hcydw hb7; have hcz7 := cell_below2 hz hb7; have HSD7 := hid (HZS.out.below hb7); have hs7 := hb7.size; clear ho7 hb7)
                | (go_at_call 101; with_reducible refine (permutationRank_any _ x _ HSX7.out hx12).mono ?_; rintro e w8 ⟨rfl, rfl⟩; rw [← HIX.out])
                | (go_at_call 101; with_reducible refine (permutationRank_any _ d _ HSD7.out hd12).mono ?_; rintro e w9 ⟨rfl, rfl⟩; rw [← HID.out]; have hh7 := HO7.out.at0 HRX.out; obtain ⟨hcs7, hfs7⟩ := hh7; have hd8 := ds_store (ix := ix) (u := yd + 1) HO7.out HL7.out HX7.out HB7.out; obtain ⟨vs, hvl, hvr, hve, ho8, hx8, hb8, hHa⟩ := hd8; have hsz8 := W8_size (ix := ix) (u := yd + 1) HO7.out; have HSZ8 := hid hsz8; clear hsz8; have HVR := hid hvr; have HPU := hid (fun (w9 : World) (v9 : Value) => ds_push (w9 := w9) (v9 := v9) hvl hvr hve ho8 hx8 hb8); clear hvr hve ho8 hx8 hb8)
                | (at_builtin; refine wpList_append_own _ rfl _ _ 45 rfl (gd + 1) 22 j0 (.slice none 0 0) 1 24 Try.underlying45 hj hy0 hy1 hy2 rfl (by decide) _ _ _ rfl (World.ownsRow.alloc HVR.out _) ⟨w7.heap.size, 0, none⟩ 1 1 [.slice (some ⟨g5, 0, none⟩) n5 c5] rfl rfl (fun j u hj => new_cellN HSZ8.out j hj) (by intro u hu; simp at hu; subst hu; rfl) hR1 hR2 hHa ?_; intro v9 w9 hown9 hgrow9 _; have hp9 := HPU.out w9 v9 hown9 hgrow9; have HP9 := hid hp9; clear hp9 hown9 hgrow9)
                | fail)
              go_roundw
              case rel => exact ⟨t + 1, O.set ix (yd + 1), R ++ [x], by omega, by go_num, by rw [← HST.out]; exact HSTI.out.1, by simp; omega, by rw [HR1.out, HST.out], HP9.out.1, HP9.out.2.1, HP9.out.2.2⟩
              case measure => simp [intOf]; omega
            · have HST := hid (HSTO.out (by omega))
              go_wp2_with (first
                | (go_at_call 80; refine (HCON.out _ _ HZS.out).mono ?_; rintro e w7 ⟨g5, n5, c5, rfl, ho7, hb7⟩; have HX7 := hid (ho7.mono (show gd + 1 ≤ wr.heap.size by omega)); have HSX7 := hid ho7.sits; have HO7 := hid (HON2.out.below hb7); have HL7 := hid (HLI2.out.below hb7); have HB7 := hid (HBE2.out.trans (hb7.mono (by omega))); have hcy7 := cell_below2 hcyw hb7; have hcyd7 := cell_below2 hcydw hb7; have hcz7 := cell_below2 hz hb7; have HSD7 := hid (HZS.out.below hb7); have hs7 := hb7.size; clear ho7 hb7)
                | (go_at_call 101; with_reducible refine (permutationRank_any _ x _ HSX7.out hx12).mono ?_; rintro e w8 ⟨rfl, rfl⟩; rw [← HIX.out])
                | fail)
              go_roundw
              case rel => exact ⟨t + 1, O, R, by omega, by go_num, HDI2.out, hkR, by rw [HR1.out, HST.out], HO7.out, HL7.out, HB7.out⟩
              case measure => simp [intOf]; omega
          · obtain rfl : t = ms.length := by omega
            have HF2 := hid (show dsRow ms k 0 ms.length s = (O, R) by rw [heq, Nat.sub_self]; rfl)
            clear hdi heq hown hli hbel hcl
            go_wp2_with fail
            go_roundw
            case rel => exact ⟨f', k + 1, (O, R), by omega, by show k + 1 ≤ R.length; omega, by go_num, HDI2.out, by rw [HON1.out, HF2.out], HON2.out, HLI2.out, HBE2.out⟩
            case measure => simp [intOf]; omega
      · have HE := hid (show s.1 = dsL N ms by rw [dsL, heq, dsRun_end hlt f])
        have HFIN := hid ((Below_chain (Below.refl _ _) HB2.out : Below w.heap.size w w2).trans (hbel.mono hg0))
        clear hdi heq hown hli hbel hcl
        go_wp2_with fail
        go_ret2
        exact ⟨_, rfl, by rw [HR.out, ← HE.out]; exact HON.out.mono hg0, HFIN.out⟩
theorem isAtLeast_any5 (a b : Int) (w : World) : Calls Try.prog 104 #[.int .i64 a, .int .i64 b] w fun e w' => e = .returned (.bool (decide (b ≤ a))) ∧ w = w' := by
  by_cases h : b ≤ a
  all_goals
    go_enter Try.func104, Try.ntmps104
    go_wp2
    go_ret
    exact ⟨by simp; omega, rfl⟩
theorem countRelated_ge (v : Value) (xs : List Int) (x : Int) (w : World) (h : Reads w v xs) :
    Calls Try.prog 73 #[v, .int .i64 x, .func (.func 104) #[] #[]] w fun e w' => e = .returned (.int .i64 (countGe xs x)) ∧ w = w' := by
  obtain ⟨ao, c, rfl, hc1, hm, h⟩ := h.view
  rcases h with h | ⟨b, off, rfl, hb, hc⟩
  · subst h
    go_enter Try.func73, Try.ntmps73
    go_wp2
    refine wp_loop_rounds 1 ?_
    rw [rounds_succ]
    go_wp2
    go_ret
    exact ⟨rfl, rfl⟩
  · go_enter Try.func73, Try.ntmps73
    go_wp2
    go_loop [7, 9, 12] (fun n _ i => ∃ k : Nat, k ≤ xs.length ∧ i = .int .i64 k ∧ n = .int .i64 (countGe (xs.take k) x)) (fun _ _ i => xs.length - (intOf i).toNat)
    case atStart => exact ⟨0, Nat.zero_le _, rfl, rfl⟩
    case round =>
      obtain ⟨k, hk, rfl, rfl⟩ := hrel
      by_cases hlt : k < xs.length
      · have hcx := hc k hlt
        clear hc
        have hcl : countGe (xs.take k) x ≤ k := Nat.le_trans (countGe_le _ _) (List.length_take_le _ _)
        by_cases hx : x ≤ xs[k]
        · have hb1 : decide (x ≤ xs[k]) = true := by simpa using hx
          have HC := hid (countGe_yes hlt hx)
          clear hx
          go_wp2_with (go_at_call 104; refine (isAtLeast_any5 _ _ _).mono ?_; rintro e w' ⟨rfl, rfl⟩)
          go_round
          case rel => exact ⟨k + 1, by omega, by go_num, by rw [HC.out]; go_num⟩
          case measure => simp [intOf]; omega
        · have hb1 : decide (x ≤ xs[k]) = false := by simpa using hx
          have HC := hid (countGe_no hlt hx)
          clear hx
          go_wp2_with (go_at_call 104; refine (isAtLeast_any5 _ _ _).mono ?_; rintro e w' ⟨rfl, rfl⟩)
          go_round
          case rel => exact ⟨k + 1, by omega, by go_num, by rw [HC.out]⟩
          case measure => simp [intOf]; omega
      · obtain rfl : k = xs.length := by omega
        go_wp2
        go_ret
        exact ⟨rfl, rfl⟩
theorem impl_ReachCount_any (n : Int) (v : Value) (ms : List Mv) (w : World) (hm : ReadsM w v ms) :
    Calls Try.prog 55 #[.int .i64 n, v] w fun e w' => e = .returned (.tuple #[.int .i64 (rcV n ms), .bool (tkB n ms)]) ∧ Below w.heap.size w w' := by
  have HM := hid hm
  have HV := hid (show rcV n ms = countGe (dfRes n ms) 0 from rfl)
  obtain ⟨D, hD⟩ : ∃ D, D = dfRes n ms := ⟨_, rfl⟩
  have HD := hid hD
  rw [← hD] at HV
  clear hm hD
  go_enter Try.func55, Try.ntmps55
  go_wp2_with (first
    | (go_at_call 61; refine (impl_DistancesFrom_any n _ ms _ HM.out).mono ?_; rintro e w1 ⟨r, rfl, ho, hb1⟩; rw [← HD.out] at ho; have HR := hid ho.reads; have HB1 := hid hb1; clear ho hb1)
    | (go_at_call 73; refine (countRelated_ge _ D 0 _ HR.out).mono ?_; rintro e w2 ⟨rfl, rfl⟩)
    | fail)
  go_ret2
  exact ⟨ret_nb5 HV.out.symm rfl, HB1.out⟩
end Go.Proofs.Yteenmndgejeihaa
