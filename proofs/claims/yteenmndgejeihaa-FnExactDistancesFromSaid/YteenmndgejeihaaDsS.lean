/- Contract: moDistances. Conditions: the slice reads as a list of moves of permutations of n, 1 <= n <= 5. -/
import Derived.Test.YteenmndgejeihaaBs3
import Derived.Handy
namespace Go.Proofs.Yteenmndgejeihaa
open Go.RowKit
set_option linter.unusedVariables false
set_option maxRecDepth 4000

theorem Own.stayM {w w' : World} {B : Nat} {v : Value} {xs : List Int} (h : Own w B v xs) (hk : ∀ k, B ≤ k → k < w.heap.size → w'.heap[k]? = w.heap[k]?) : Own w' B v xs := by
  have hlt := World.ownsRow.lt h
  refine ⟨h.1, ?_⟩
  rcases h.2 with hnil | ⟨g, cap, cur, rfl, hg, hgg, rest⟩
  · exact .inl hnil
  · have := hlt g rfl
    exact .inr ⟨g, cap, cur, rfl, hg, by rw [hk g this.1 this.2]; exact hgg, rest⟩
theorem Lists.stayM {w w' : World} {B : Nat} {v : Value} {L : List (List Int)} (h : Lists w B v L) (hk : ∀ k, B ≤ k → k < w.heap.size → w'.heap[k]? = w.heap[k]?) : Lists w' B v L := by
  obtain ⟨vs, a, b, c⟩ := h
  refine ⟨vs, a, ?_, fun i x y => (c i x y).stayM hk⟩
  have hlt := World.ownsRow.lt b
  refine ⟨b.1, ?_⟩
  rcases b.2 with hnil | ⟨g, cap, cur, rfl, hg, hgg, rest⟩
  · exact .inl hnil
  · have := hlt g rfl
    exact .inr ⟨g, cap, cur, rfl, hg, by rw [hk g this.1 this.2]; exact hgg, rest⟩
theorem Own.at0 {w : World} {B g n c : Nat} {xs : List Int} (h : Own w B (.slice (some ⟨g, 0, none⟩) n c) xs) {i : Nat} (hi : i < xs.length) : w.cell? ⟨g, i, none⟩ = some (.int .i64 (xs.getD i 0)) ∧ w.frozen? ⟨g, i, none⟩ = false := by
  rcases h.form with ⟨e, _⟩ | ⟨g', cap', e, _, _, _, _, hgc, hgf⟩
  · cases e
  · simp only [Value.slice.injEq, Option.some.injEq, Addr.mk.injEq] at e
    obtain ⟨⟨rfl, _, _⟩, _, _⟩ := e
    have h1 := hgc i hi
    rw [Nat.zero_add] at h1
    exact ⟨h1, hgf i⟩
theorem Own.slice4 {w : World} {B : Nat} {v : Value} {xs : List Int} (h : Own w B v xs) : ∃ ao c, v = .slice ao xs.length c := by
  rcases h.form with ⟨rfl, rfl⟩ | ⟨g, cap, rfl, _⟩
  · exact ⟨none, 0, rfl⟩
  · exact ⟨_, _, rfl⟩
theorem Own.sits5 {w : World} {B : Nat} {v : Value} {xs : List Int} (h : Own w B v xs) (h0 : 0 < xs.length) : Sits w v xs := by
  obtain ⟨g, n, c, rfl⟩ := Own.shape h h0
  exact h.sits
theorem cell_setD {w : World} {a b : Addr} {v x : Value} (h : w.cell? a = some x) (hne : a ≠ b) : (w.setCell b v).cell? a = some x := (World.cell?_setCell_other _ _ _ _ (Ne.symm hne)).trans h
theorem rep_succ (r : Nat) : List.replicate (r + 1) (-1 : Int) = List.replicate r (-1) ++ [-1] := by rw [List.replicate_succ']
theorem raRank_below (xs : List Int) (v : Value) (w : World) (hl : xs.length ≤ 12) (h : Sits w v xs) :
    Calls Try.prog 125 #[v] w fun e w' => e = .returned (.int .i64 (rankR xs)) ∧ Below w.heap.size w w' := by
  refine (raRank_any xs v w hl h).mono ?_
  rintro e w' ⟨rfl, q, rfl⟩
  exact ⟨rfl, below_drewN (Below.refl _ _) q⟩
set_option maxHeartbeats 1000000 in
theorem moDistances_any (N : Nat) (v : Value) (ms : List Mv) (w : World) (hm : ReadsM w v ms) (h1 : 1 ≤ N) (h5 : N ≤ 5) (hg : ∀ t, t < ms.length → mvAt N ms t = true) :
    Calls Try.prog 103 #[.int .i64 (N : Int), v] w fun e w' => ∃ u, e = .returned u ∧ Own w' w.heap.size u (dsL N ms) ∧ Below w.heap.size w w' := by
  have HRM := hid hm
  have HG := hid hg
  obtain ⟨ao, cm, rfl, hcm, hcmm, hmd⟩ := hm
  have HMD := hid hmd
  unfold maxLen at hcmm
  obtain ⟨i0, hi, hz0, hz1, hz2⟩ := info_parts Try.info3
  obtain ⟨j0, hj, hy0, hy1, hy2⟩ := info_parts Try.infoL
  have HU := hid (upTo_length N)
  have hF : fact N ≤ 120 := fact_five h5
  have hF0 : 0 < fact N := fact_pos3 N
  obtain ⟨F, hFF⟩ : ∃ F, F = fact N := ⟨_, rfl⟩
  have HFF := hid hFF
  rw [← hFF] at hF hF0
  clear hmd hg hFF
  go_enter Try.func103, Try.ntmps103
  go_wp2_with fail
  go_loopw [5, 6] (fun ov i wr => ∃ r : Nat, r ≤ F ∧ i = .int .i64 r ∧ Own wr w.heap.size ov (List.replicate r (-1)) ∧ Below w.heap.size w wr) (fun _ i _ => F - (intOf i).toNat)
  case atStart => exact ⟨0, Nat.zero_le _, rfl, Own.nil _ _, Below.refl _ _⟩
  case round =>
    obtain ⟨r, hr, rfl, hown, hbel⟩ := hrel
    have HO := hid hown
    have HB := hid hbel
    have hsz := hbel.size
    by_cases hlt : r < F
    · have HL := hid (show (List.replicate r (-1 : Int)).length = r by simp)
      obtain ⟨l, hl⟩ : ∃ l, l = List.replicate r (-1 : Int) := ⟨_, rfl⟩
      have HNX := hid (show List.replicate (r + 1) (-1 : Int) = l ++ [-1] by rw [rep_succ, hl])
      rw [← hl] at HO HL
      have hll : l.length ≤ 120 := by rw [HL.out]; omega
      clear hl hown hbel
      go_wp2_with (first
        | (go_at_call 64; refine (raFactorial_any N _ (by omega)).mono ?_; rintro e w1 ⟨rfl, rfl⟩; rw [← HFF.out])
        | (at_builtin; refine wpList_append_own _ rfl _ _ 22 rfl w.heap.size 3 i0 (.int .i64 0) 1 8 Try.underlying22 hi hz0 hz1 hz2 rfl (by decide) _ _ _ rfl (World.ownsRow.alloc HO.out.row _) ⟨wr.heap.size, 0, none⟩ 1 1 [.int .i64 (-1)] rfl rfl (fun j y hj => new_cell1 j hj) (ints_one [-1]) (by unfold maxLen; omega) (by omega) (by simp; omega) ?_; intro v2 w2 hown2 hgrow2 hn2; have HO2 := hid (Own.snoc hown2); have HB3 := hid ((HB.out.alloc hsz (.cells #[.int .i64 (-1)] 3)).grown hgrow2 (by simp; omega) (fun q hq => (World.ownsRow.lt HO.out q hq).1)); clear hown2 hgrow2 hn2)
        | fail)
      go_roundw
      case rel => exact ⟨r + 1, by omega, by go_num, by rw [HNX.out]; exact HO2.out, HB3.out⟩
      case measure => simp [intOf]; omega
    · obtain rfl : r = F := by omega
      obtain ⟨g, n0, c, hov⟩ := Own.shape hown (by simpa using hF0)
      subst hov
      have hn0 := hown.len
      simp at hn0
      subst hn0
      have HO := hid hown
      have hgg := (World.ownsRow.lt hown g rfl)
      clear hown hbel
      go_wp2_with (first
        | (go_at_call 64; refine (raFactorial_any N _ (by omega)).mono ?_; rintro e w1 ⟨rfl, rfl⟩; rw [← HFF.out])
        | (go_at_call 84; refine (raUpTo_any N _ (by omega)).mono ?_; rintro e w2 ⟨u2, rfl, ho2, hb2⟩; obtain ⟨g2, n2, c2, rfl⟩ := Own.shape ho2 (by rw [HU.out]; omega); have HU2 := hid ho2; have hs2 := hb2.size; have HL2 := hid (Lists_lit4 ho2 hs2); have HB2 := hid (Below_chain HB.out hb2); have HO2 := hid (HO.out.below hb2); have HB3 := hid ((Below_chain HB.out hb2).alloc (Nat.le_trans hsz hs2) (.cells #[.slice (some ⟨g2, 0, none⟩) n2 c2] 22)); have HO3 := hid (HO2.out.below ((Below.refl _ _).alloc (Nat.le_refl _) (.cells #[.slice (some ⟨g2, 0, none⟩) n2 c2] 22))); obtain ⟨hc0, hf0⟩ := HO3.out.at0 (i := 0) (by simpa using hF0); clear ho2 hb2)
        | fail)
      have hst := HO3.out.setN 0 0
      have HO4 := hid hst.1
      have HB4 := hid (show Below w.heap.size w _ from HB3.out.setCell (p := ⟨g, 0, none⟩) hgg.1 (.int .i64 0))
      have HL4 := hid (HL2.out.stayM (w' := (w2.alloc (.cells #[.slice (some ⟨g2, 0, none⟩) n2 c2] 22)).setCell ⟨g, 0, none⟩ (.int .i64 0)) (fun k hk hk2 => hst.2.block k hk2 (by simp only [ne_eq, Option.some.injEq]; omega)))
      obtain ⟨w4, hw4⟩ : ∃ w4, w4 = (w2.alloc (.cells #[.slice (some ⟨g2, 0, none⟩) n2 c2] 22)).setCell ⟨g, 0, none⟩ (.int .i64 0) := ⟨_, rfl⟩
      rw [← hw4] at HO4 HB4 HL4 ⊢
      clear hw4 hst hc0 hf0
      obtain ⟨H, hH⟩ : ∃ H, H = wr.heap.size := ⟨_, rfl⟩
      rw [← hH] at HL4 hgg
      have HGM := hid (show ∀ t, t < ms.length → mvAt N ms t = true from HG.out)
      have HS0 := hid (show ds0 N = ((List.replicate n0 (-1)).set 0 0, [upTo N]) by rw [ds0, ← HFF.out])
      obtain ⟨s0, hs0⟩ : ∃ s0 : DS, s0 = ((List.replicate n0 (-1)).set 0 0, [upTo N]) := ⟨_, rfl⟩
      have HO5 := hid (show Own w4 w.heap.size (.slice (some ⟨g, 0, none⟩) n0 c) s0.1 by rw [hs0]; exact HO4.out)
      have HL5 := hid (show Lists w4 H (.slice (some ⟨w2.heap.size, 0, none⟩) 1 1) s0.2 by rw [hs0]; exact HL4.out)
      rw [← hs0] at HS0
      clear hs0 hH
      go_wp2_with fail
      go_loopw [7, 8] (fun rv i wr => ∃ (f k : Nat) (s : DS), k + f = 121 ∧ k ≤ s.2.length ∧ i = .int .i64 k ∧ DI N s ∧ dsRun ms 121 0 (ds0 N) = dsRun ms f k s ∧ Own wr w.heap.size (.slice (some ⟨g, 0, none⟩) n0 c) s.1 ∧ Lists wr H rv s.2 ∧ Below w.heap.size w wr) (fun _ i _ => 121 - (intOf i).toNat)
      case atStart => exact ⟨121, 0, s0, rfl, Nat.zero_le _, rfl, by rw [← HS0.out]; exact DI_first N, by rw [HS0.out], HO5.out, HL5.out, HB4.out⟩
      case round =>
        obtain ⟨f, k, s, hkf, hks, rfl, hdi, heq, hown, hli, hbel⟩ := hrel
        have HDI := hid hdi
        have HEQ := hid heq
        have HON := hid hown
        have HLI := hid hli
        have HBE := hid hbel
        have hlen := hdi.2.1.len h5
        rcases hli.form with ⟨_, hn⟩ | ⟨gr, cr, rfl, hgH, hgr, hcr1, hcrm, hcl⟩
        · have := hdi.2.1.1
          rw [hn] at this
          simp at this
        by_cases hlt : k < s.2.length
        · obtain ⟨f', rfl⟩ : ∃ f', f = f' + 1 := ⟨f - 1, by omega⟩
          have HON1 := hid (heq.trans (dsRun_on hlt f'))
          clear hdi heq hown hli hbel hcl
          obtain ⟨wo, rfl⟩ : ∃ wo : World, wo = wr := ⟨_, rfl⟩
          go_wp2_with fail
          go_loopw [7, 34] (fun rv i wr => ∃ (t : Nat) (O : List Int) (R : List (List Int)), t ≤ ms.length ∧ i = .int .i64 t ∧ DI N (O, R) ∧ k < R.length ∧ dsRow ms k 0 ms.length s = dsRow ms k t (ms.length - t) (O, R) ∧ Own wr w.heap.size (.slice (some ⟨g, 0, none⟩) n0 c) O ∧ Lists wr H rv R ∧ Below w.heap.size w wr) (fun _ i _ => ms.length - (intOf i).toNat)
          case atStart => exact ⟨0, s.1, s.2, Nat.zero_le _, rfl, HDI.out, hlt, rfl, HON.out, HLI.out, HBE.out⟩
          case round =>
            obtain ⟨t, O, R, htl, rfl, hdi, hkR, heq, hown, hli, hbel⟩ := hrel
            have HDI2 := hid hdi
            have HEQ2 := hid heq
            have HON2 := hid hown
            have HLI2 := hid hli
            have HBE2 := hid hbel
            have hsz2 := hbel.size
            have hRl := hdi.2.1.len h5
            simp only at hRl
            rcases hli.form with ⟨_, hn⟩ | ⟨gq, cq, rfl, hgH2, hgq, hcq1, hcqm, hcl⟩
            · rw [hn] at hkR; simp at hkR
            by_cases hlt2 : t < ms.length
            · rcases HMD.out with h0 | ⟨bb, off, rfl, hbb, hcm3⟩
              · rw [h0] at hlt2; simp at hlt2
              obtain ⟨e0, e1, e2⟩ := hcm3 t hlt2
              have hc0 := (hbel.cell (p := ⟨bb, off + t * 3, none⟩) (by exact hbb)).trans e0
              have hc1' := (hbel.cell (p := ⟨bb, off + t * 3 + 1, none⟩) (by exact hbb)).trans e1
              have hc2 := (hbel.cell (p := ⟨bb, off + t * 3 + 2, none⟩) (by exact hbb)).trans e2
              have hmt := HG.out t hlt2
              have hxP := dsX_PN hdi hkR hmt
              have hst := DI_step (t := t) hdi hkR hmt
              rw [mvAt, mGet_at hlt2] at hmt
              have hX : dsX ms k t (O, R) = mvL ms[t].1 ms[t].2.1 ms[t].2.2 (R.getD k []) := by rw [dsX, mGet_at hlt2]; rfl
              obtain ⟨m, hm⟩ : ∃ m, m = ms[t] := ⟨_, rfl⟩
              rw [← hm] at hc0 hc1' hc2 hmt hX
              obtain ⟨kk, ii, jj⟩ := m
              simp only at hc0 hc1' hc2 hmt hX
              obtain ⟨z, hz, hzo⟩ := hcl k hkR
              obtain ⟨d, hd⟩ : ∃ d, d = R.getD k [] := ⟨_, rfl⟩
              have hd2 : d = R[k] := by rw [hd, getDM hkR]
              have hdP : PN N d := by rw [hd2]; exact hdi.2.1.2.2 _ (List.getElem_mem _)
              have hdn := hdi.2.2.1 d (by rw [hd2]; exact List.getElem_mem _)
              rw [← hd2] at hzo
              rw [← hd] at hX
              obtain ⟨x, hx⟩ : ∃ x, x = mvL kk ii jj d := ⟨_, rfl⟩
              have HX := hid hx
              rw [← hx] at hX
              rw [hX] at hxP
              have hdl := hdP.len
              have hxl := hxP.len
              have hrx : rankR x < O.length := by rw [hdi.1]; exact rk_lt hxP
              have hrd : rankR d < O.length := by rw [hdi.1]; exact rk_lt hdP
              have hOl : O.length = n0 := by rw [hdi.1, HFF.out]
              have hry := hdi.2.2.2 _ hrx
              have hrdy := hdi.2.2.2 _ hrd
              obtain ⟨ix, hix⟩ : ∃ ix, ix = rankR x := ⟨_, rfl⟩
              obtain ⟨id, hid2⟩ : ∃ id, id = rankR d := ⟨_, rfl⟩
              have HIX := hid hix
              have HID := hid hid2
              obtain ⟨y, hy⟩ : ∃ y, y = O.getD ix 0 := ⟨_, rfl⟩
              obtain ⟨yd, hyd⟩ : ∃ yd, yd = O.getD id 0 := ⟨_, rfl⟩
              rw [← hix, ← hy] at hry
              rw [← hid2, ← hyd] at hrdy hdn
              rw [← hix] at hrx
              rw [← hid2] at hrd
              simp only at hry hrdy hdn
              have HY := hid hy
              have HYD := hid hyd
              have HM := hid (show mvB d.length kk ii jj = true by rw [hdl]; exact hmt)
              have HSTN := hid (show y < 0 → dsStep ms k t (O, R) = (O.set ix (yd + 1), R ++ [x]) from fun hneg => by
                rw [dsStep_new (by rw [hX]; show O.getD (rankR x) 0 < 0; rw [← hix, ← hy]; exact hneg), hX]
                show (O.set (rankR x) (O.getD (rankR (R.getD k [])) 0 + 1), R ++ [x]) = _
                rw [← hd, ← hix, ← hid2, ← hyd])
              have HSTO := hid (show ¬ y < 0 → dsStep ms k t (O, R) = (O, R) from fun hneg => dsStep_old (by rw [hX]; show ¬ O.getD (rankR x) 0 < 0; rw [← hix, ← hy]; exact hneg))
              have HSTI := hid hst
              have HR1 := hid (show dsRow ms k 0 ms.length s = dsRow ms k (t + 1) (ms.length - (t + 1)) (dsStep ms k t (O, R)) by
                rw [heq, show ms.length - t = (ms.length - (t + 1)) + 1 by omega]; rfl)
              have HZ := hid hzo
              obtain ⟨az, cz, hze⟩ := hzo.slice4
              subst hze
              obtain ⟨x0, x1, x2⟩ := mv_box wr kk ii jj
              have hba := (Below.refl wr.heap.size wr).alloc (Nat.le_refl _) (mvObj kk ii jj)
              have HBA := hid hba
              have hczA : (wr.alloc (mvObj kk ii jj)).cell? ⟨gq, k, none⟩ = some (.slice az d.length cz) := (hba.cell (by exact hgq)).trans hz
              have HDR := hid (show Below (wr.alloc (mvObj kk ii jj)).heap.size (wr.alloc (mvObj kk ii jj)) (wr.alloc (mvObj kk ii jj)).drew from (Below.refl _ _).drew)
              have HWS := hid (show wr.heap.size ≤ (wr.alloc (mvObj kk ii jj)).heap.size from hba.size)
              have hk0 : (0 : Int) ≤ (k : Int) := by omega
              have hk1 : (k : Int) < (R.length : Int) := by omega
              have hwk : IntKind.i64.wrap (k : Int) = (k : Int) := IntWalk.i64_in _ (by omega)
              have hd1000 : d.length ≤ 1000 := by omega
              have hd12 : d.length ≤ 12 := by omega
              have hx12 : x.length ≤ 12 := by omega
              have hx0 : 0 < x.length := by omega
              have hd0 : 0 < d.length := by omega
              have HDL := hid hdl
              have HXL := hid hxl
              have HOL := hid hOl
              have HRYY := hid (And.intro hry hrdy)
              have HDN := hid hdn
              clear hdi heq hown hli hbel hcl e0 e1 e2 hcm3 hmt hxP hst hX hm hzo hd hd2 hdP hx hix hid2 hy hyd hba hz hdl hxl hOl hry hrdy hdn
              go_wp2_with fail
              go_region_held3 (fun w' => w'.cell? ⟨gq, k, none⟩ = some (.slice az d.length cz) ∧ w'.cell? ⟨wr.heap.size, 0, none⟩ = some (.int .i64 kk) ∧ w'.cell? ⟨wr.heap.size, 1, none⟩ = some (.int .i64 ii) ∧ w'.cell? ⟨wr.heap.size, 2, none⟩ = some (.int .i64 jj))
                (first | exact ⟨hczA, x0, x1, x2⟩ | exact ⟨cell_below2 hczA HA2.out, cell_below2 x0 HA2.out, cell_below2 x1 HA2.out, cell_below2 x2 HA2.out⟩ | go_keep | fail)
                (first
                  | (go_at_call 79; refine (moApply_any _ d kk ii jj _ ((HZ.out.reads.below HBA.out).below HDR.out) hd1000 HM.out).mono ?_; rintro e w2 ⟨u, rfl, ho2, hb2⟩; rw [← HX.out] at ho2; obtain ⟨g5, n5, c5, rfl⟩ := Own.shape ho2 hx0; have HA2 := hid (HDR.out.trans hb2 : Below (wr.alloc (mvObj kk ii jj)).heap.size (wr.alloc (mvObj kk ii jj)) w2); have HO2 := hid ho2; clear ho2 hb2)
                  | fail)
              all_goals
                have HB2 := hid (Below_chain (HBE2.out.alloc hsz2 (mvObj kk ii jj)) HA2.out)
                have HON3 := hid ((HON2.out.below HBA.out).below HA2.out)
                have HLI3 := hid ((HLI2.out.below HBA.out).below HA2.out)
                have HZ3 := hid ((HZ.out.below HBA.out).below HA2.out)
                have hHw : H ≤ wr.heap.size := by omega
                have HXO := hid (HO2.out.mono (Nat.le_trans hHw HWS.out))
                have HSX := hid HXO.out.sits
                have hcy := (HON3.out.at0 (i := ix) hrx).1
                have hcyd := (HON3.out.at0 (i := id) hrd).1
                rw [← HY.out] at hcy
                rw [← HYD.out] at hcyd
                have hcz2 := cell_below2 hczA HA2.out
                have hix0 : (0 : Int) ≤ (ix : Int) := by omega
                have hix1 : (ix : Int) < (n0 : Int) := by have := HOL.out; omega
                have hid0 : (0 : Int) ≤ (id : Int) := by omega
                have hid1 : (id : Int) < (n0 : Int) := by have := HOL.out; omega
                have HRX := hid hrx
                clear hczA x0 x1 x2 hrx hrd
                by_cases hneg : y < 0
                · have HST := hid (HSTN.out hneg)
                  have hyd1 : IntKind.i64.wrap (yd + 1) = yd + 1 := IntWalk.i64_in _ (by have := HRYY.out; have := HDN.out; omega)
                  go_wp2_with (first | (go_at_call 125; refine (raRank_below x _ _ hx12 HSX.out).mono ?_; rintro e w3 ⟨rfl, hb3⟩; rw [← HIX.out]; have hcy3 := cell_below2 hcy hb3; have HA3 := hid hb3; clear hb3) | fail)
                  have HON4 := hid (HON3.out.below HA3.out)
                  have HLI4 := hid (HLI3.out.below HA3.out)
                  have HSX4 := hid (HSX.out.below HA3.out)
                  have HSD4 := hid ((HZ3.out.below HA3.out).sits5 hd0)
                  have HB4 := hid (Below_chain HB2.out HA3.out)
                  have HXO4 := hid (HXO.out.below HA3.out)
                  have hczd := cell_below2 hcz2 HA3.out
                  have hcyd3 := cell_below2 hcyd HA3.out
                  have hidx : id ≠ ix := fun e => by
                    have e1 := HY.out
                    have e2 := HYD.out
                    have e3 := HDN.out
                    rw [e] at e2
                    omega
                  have hne1 : (⟨gq, k, none⟩ : Addr) ≠ ⟨g, ix, none⟩ := fun e => by simp only [Addr.mk.injEq] at e; omega
                  have hne2 : (⟨g, id, none⟩ : Addr) ≠ ⟨g, ix, none⟩ := fun e => by simp only [Addr.mk.injEq] at e; omega
                  clear hcz2 hcyd hcy hcy3
                  go_region_held3 (fun w' => w'.cell? ⟨gq, k, none⟩ = some (.slice az d.length cz) ∧ w'.cell? ⟨g, id, none⟩ = some (.int .i64 yd))
                    (first | exact ⟨hczd, hcyd3⟩ | exact ⟨cell_below2 hczd HA4.out, cell_below2 hcyd3 HA4.out⟩ | exact ⟨cell_below2 hczd HA5.out, cell_below2 hcyd3 HA5.out⟩ | exact ⟨cell_setD (cell_below2 hczd HA5.out) hne1, cell_setD (cell_below2 hcyd3 HA5.out) hne2⟩ | go_keep | fail)
                    (first
                      | (go_at_call 125; refine (raRank_below d _ _ hd12 (HSD4.out.below HA4.out)).mono ?_; rintro e w5 ⟨rfl, hb5⟩; rw [← HID.out]; have HA5 := hid (Below_chain HA4.out hb5 : Below w3.heap.size w3 w5); have HON5 := hid (HON4.out.below HA5.out); obtain ⟨hcs, hfs⟩ := HON5.out.at0 HRX.out; obtain ⟨zz, hzz⟩ : ∃ zz, w5.cell? ⟨g, ix, none⟩ = some zz := ⟨_, hcs⟩; clear hb5 hcs)
                      | (go_at_call 125; refine (raRank_below x _ _ hx12 (HSX4.out.below (Below.refl _ _).drew)).mono ?_; rintro e w4 ⟨rfl, hb4⟩; rw [← HIX.out]; have HA4 := hid ((Below.refl _ _).drew.trans hb4 : Below w3.heap.size w3 w4); clear hb4)
                      | fail)
                  all_goals
                    have hst6 := HON5.out.setN ix (yd + 1)
                    have HO6 := hid hst6.1
                    have hgw := (World.ownsRow.lt HON5.out g rfl).1
                    have HB6 := hid ((Below_chain HB4.out HA5.out).setCell (p := ⟨g, ix, none⟩) hgw (.int .i64 (yd + 1)))
                    have HL6 := hid ((HLI4.out.below HA5.out).stayM (w' := w5.setCell ⟨g, ix, none⟩ (.int .i64 (yd + 1))) (fun q h1 h2 => hst6.2.block q h2 (by simp only [ne_eq, Option.some.injEq]; omega)))
                    have HX6 := hid ((HXO4.out.below HA5.out).stayM (w' := w5.setCell ⟨g, ix, none⟩ (.int .i64 (yd + 1))) (fun q h1 h2 => hst6.2.block q h2 (by simp only [ne_eq, Option.some.injEq]; omega)))
                    obtain ⟨w6, hw6⟩ : ∃ w6, w6 = w5.setCell ⟨g, ix, none⟩ (.int .i64 (yd + 1)) := ⟨_, rfl⟩
                    rw [← hw6] at HO6 HB6 HL6 HX6 ⊢
                    obtain ⟨vs, hvl, hvr, hve⟩ := HL6.out
                    have HVL := hid hvl
                    have HVR := hid hvr
                    have HVE := hid hve
                    have hlow := World.ownsRow.lt hvr gq rfl
                    have hR1 : R.length + 1 ≤ maxLen := by unfold maxLen; omega
                    have hR2 : (R.length + 1) * 24 ≤ 140737488355328 := by omega
                    have hs6 := HB6.out.size
                    have hHa : H ≤ (w6.alloc (.cells #[.slice (some ⟨g5, 0, none⟩) n5 c5] 22)).heap.size := by simp; omega
                    clear hw6 hst6 hvl hvr hve hfs hzz hczd hcyd3 hne1 hne2 hidx
                    go_wp2_with (first
                      | (at_builtin; refine wpList_append_own _ rfl _ _ 45 rfl H 22 j0 (.slice none 0 0) 1 24 Try.underlying45 hj hy0 hy1 hy2 rfl (by decide) _ _ _ rfl (World.ownsRow.alloc HVR.out _) ⟨w6.heap.size, 0, none⟩ 1 1 [.slice (some ⟨g5, 0, none⟩) n5 c5] rfl rfl (fun j u hj => new_cellV j hj) (by intro u hu; simp at hu; subst hu; rfl) hR1 hR2 hHa ?_; intro v7 w7 hown7 hgrow7 _; have HPU := hid (Lists_push HVL.out (World.ownsRow.alloc HVR.out _) (fun i a b => (HVE.out i a b).below ((Below.refl _ _).alloc (Nat.le_refl _) _)) (HX6.out.below ((Below.refl _ _).alloc (Nat.le_refl _) _)) hown7 hgrow7); have HO7 := hid (Own.kept_type (HO6.out.below ((Below.refl _ _).alloc (Nat.le_refl _) (.cells #[.slice (some ⟨g5, 0, none⟩) n5 c5] 22))) (T := 22) (by decide) (World.ownsRow.alloc HVR.out _) hgrow7); have HB7 := hid ((HB6.out.alloc hs6 (.cells #[.slice (some ⟨g5, 0, none⟩) n5 c5] 22)).grown hgrow7 (by simp; omega) (fun q hq => by have := (World.ownsRow.lt HVR.out q hq).1; omega)); clear hown7 hgrow7)
                      | fail)
                    go_roundw
                    case rel => exact ⟨t + 1, O.set ix (yd + 1), R ++ [x], by omega, by go_num, by rw [← HST.out]; exact HSTI.out.1, by simp; omega, by rw [HR1.out, HST.out], HO7.out, HPU.out, HB7.out⟩
                    case measure => simp [intOf]; omega
                · have HST := hid (HSTO.out (by omega))
                  go_wp2_with (first | (go_at_call 125; refine (raRank_below x _ _ hx12 HSX.out).mono ?_; rintro e w3 ⟨rfl, hb3⟩; rw [← HIX.out]; have hcy3 := cell_below2 hcy hb3; have HA3 := hid hb3; clear hb3) | fail)
                  go_roundw
                  case rel => exact ⟨t + 1, O, R, by omega, by go_num, HDI2.out, hkR, by rw [HR1.out, HST.out], HON3.out.below HA3.out, HLI3.out.below HA3.out, Below_chain HB2.out HA3.out⟩
                  case measure => simp [intOf]; omega
            · obtain rfl : t = ms.length := by omega
              have HF2 := hid (show dsRow ms k 0 ms.length s = (O, R) by rw [heq, Nat.sub_self]; rfl)
              clear hdi heq hown hli hbel hcl
              go_wp2_with fail
              go_roundw
              case rel => exact ⟨f', k + 1, (O, R), by omega, by show k + 1 ≤ R.length; omega, by go_num, HDI2.out, by rw [HON1.out, HF2.out], HON2.out, HLI2.out, HBE2.out⟩
              case measure => simp [intOf]; omega
        · have HE := hid (show s.1 = dsL N ms by rw [dsL, heq, dsRun_end hlt f])
          clear hdi heq hown hli hbel hcl
          go_wp2_with fail
          go_ret
          exact ⟨_, rfl, by rw [← HE.out]; exact HON.out, HBE.out⟩
end Go.Proofs.Yteenmndgejeihaa
