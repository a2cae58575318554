/- Contracts: suTour. Conditions: n odd, from 3 to 11. -/
import Derived.Test.YteimfdpkodcfbaaPcyT
import Derived.Test.YteimfdpkodcfbaaPcyQ
namespace Go.Proofs.Yteimfdpkodcfbaa
open Go.RowKit
set_option linter.unusedVariables false
set_option maxRecDepth 4000

theorem rowB_set {w : World} {g P i : Nat} {L : List Bool} (h : w.rowIs g 4 P (fun t => .bool (L.getD t false))) (hl : L.length = P) (b : Bool) :
    (w.setCell ⟨g, i, none⟩ (.bool b)).rowIs g 4 P (fun t => .bool ((L.set i b).getD t false)) := by
  refine (h.set i (.bool b)).congr (fun t ht => ?_)
  by_cases e : t = i
  · subst e
    rw [if_pos rfl, List.getD_eq_getElem?_getD, List.getElem?_set_self (by omega)]; rfl
  · rw [if_neg e, List.getD_eq_getElem?_getD, List.getD_eq_getElem?_getD, List.getElem?_set_ne (Ne.symm e)]
theorem row_has {w : World} {g P j : Nat} {T : TypeId} {f : Nat → Value} (h : w.rowIs g T P f) (hj : j < P) : (∃ z, w.cell? ⟨g, j, none⟩ = some z) ∧ w.frozen? ⟨g, j, none⟩ = false := ⟨⟨_, h.cell hj⟩, h.frozen j⟩
theorem cutT_len (n : Nat) (L : List Bool) (a b : Nat) : (cutT n L a b).length = L.length := by simp [cutT]
theorem putT_len (n : Nat) (L : List Bool) (a b : Nat) : (putT n L a b).length = L.length := by simp [putT]
theorem nxT_no {n last d : Nat} {L : List Bool} {nx : Int} (h : L.getD (last * n + d) false = false) : nxT n last (d + 1) L nx = nxT n last d L nx := by rw [nxT, h]; rfl
theorem nxT_yes {n last d : Nat} {L : List Bool} {nx : Int} (h : L.getD (last * n + d) false = true) : nxT n last (d + 1) L nx = nxT n last d (putT n (cutT n L last d) last d) (if tiT n (cutT n L last d) d then (d : Int) else nx) := by rw [nxT, h]; rfl
theorem L0T_getD {n t : Nat} (h : t < n * n) : (L0T n).getD t false = !(t / n == t % n) := by simp [L0T, h]
theorem L0T_len (n : Nat) : (L0T n).length = n * n := by simp [L0T]
def lenOf (v : Value) : Nat := match v with | .slice _ n _ => n | _ => 0
set_option maxHeartbeats 4000000 in
theorem suTour_any (n : Nat) (w : World) (hpc : pcB (n : Int) = true) :
    Calls Try.prog 92 #[.int .i64 (n : Int)] w fun e w' => ∃ u, e = .returned u ∧ Own w' w.heap.size u (trW n) ∧ Below w.heap.size w w' := by
  obtain ⟨t1, t2, t3, t4⟩ := pc_tab hpc
  have hn : inB (n : Int) 2 11 = true := inB_iff.2 (by omega)
  obtain ⟨hP6, hM6, hme, hpe⟩ := sq_bounds hn
  obtain ⟨N, hN⟩ : ∃ N, N = n * (n - 1) / 2 := ⟨_, rfl⟩
  obtain ⟨M, hM⟩ : ∃ M, M = n * (n - 1) := ⟨_, rfl⟩
  obtain ⟨P, hP⟩ : ∃ P, P = n * n := ⟨_, rfl⟩
  have hTW : trW n = (trT n N 0 (L0T n) [0]).take N := by rw [hN]; rfl
  have HTW := hid hTW
  rw [← hN] at t1
  have HT1 := hid t1
  rw [← hM] at hN hM6 hme
  rw [← hP] at hP6 hpe
  have HPP := hid hP
  have hmk := run_make_boolsP P (by omega) w
  have hq2 : (M : Int) / 2 = (N : Int) := by omega
  have hN55 : N ≤ 55 := by omega
  have HM0 := hid (World.rowIs_made w (.bool false) P 4)
  have HB0 := hid ((Below.refl w.heap.size w).alloc (Nat.le_refl _) (.cells (madeCells #[.bool false] P) 4))
  have hnz : ¬ (n : Int) = 0 := by omega
  have hn0 : ¬ n = 0 := by omega
  have hnz2 : ((n : Int) == 0) = false := beq_eq_false_iff_ne.2 hnz
  obtain ⟨i0, hi, hz0, hz1, hz2⟩ := info_parts Try.info3
  have HL0 := hid (fun t (h : t < P) => L0T_getD (n := n) (t := t) (by rw [← hP]; exact h))
  have HLL := hid (show (L0T n).length = P by rw [L0T_len, hP])
  clear hP hM hN t1 t2 hTW hpc hn
  go_enter Try.func92, Try.ntmps92
  go_wp2_with fail
  clear hmk
  go_loopw [4, 15] (fun _ i wr => ∃ j : Nat, i = .int .i64 (j : Int) ∧ j ≤ P ∧ wr.rowIs w.heap.size 4 P (fun t => .bool (if t < j then !(t / n == t % n) else false)) ∧ Below w.heap.size w wr) (fun _ i _ => P - (intOf i).toNat)
  case atStart => exact ⟨0, rfl, Nat.zero_le _, HM0.out.congr (fun t ht => by simp), HB0.out⟩
  case round =>
    obtain ⟨j, rfl, hj, hrow, hbel⟩ := hrel
    have HROW := hid hrow
    have HB := hid hbel
    clear hbel
    by_cases hlt : j < P
    · obtain ⟨⟨z, hz⟩, hfz⟩ := row_has hrow hlt
      obtain ⟨q, hq⟩ : ∃ q, q = j / n := ⟨_, rfl⟩
      obtain ⟨r, hr⟩ : ∃ r, r = j % n := ⟨_, rfl⟩
      have hqi : (j : Int) / (n : Int) = (q : Int) := by rw [hq, Int.natCast_ediv]
      have hri : (j : Int) % (n : Int) = (r : Int) := by rw [hr, Int.natCast_emod]
      have hri2 : (j : Int).tmod (n : Int) = (r : Int) := by rw [Int.tmod_eq_emod_of_nonneg (Int.natCast_nonneg j), hri]
      have hq121 : q ≤ 121 := by rw [hq]; exact Nat.le_trans (Nat.div_le_self _ _) (by omega)
      have hr121 : r ≤ 121 := by rw [hr]; exact Nat.le_trans (Nat.mod_le _ _) (by omega)
      have v1 : IntKind.i64.wrap (q : Int) = (q : Int) := IntWalk.i64_in _ (by omega)
      have v2 : IntKind.i64.wrap (r : Int) = (r : Int) := IntWalk.i64_in _ (by omega)
      have v3 : (0 : Int) ≤ (j : Int) := by omega
      have v4 : (j : Int) < (P : Int) := by omega
      have HQR := hid (show ((q : Int) != (r : Int)) = !(j / n == j % n) by
        rw [← hq, ← hr]
        by_cases e : q = r
        · subst e; simp
        · have h1 : ((q : Int) == (r : Int)) = false := beq_eq_false_iff_ne.2 (by omega)
          have h2 : (q == r) = false := beq_eq_false_iff_ne.2 e
          rw [bne, h1, h2])
      have HS := hid (HROW.out.set j (.bool ((q : Int) != (r : Int))))
      have HBS := hid (HB.out.setCell (p := ⟨w.heap.size, j, none⟩) (Nat.le_refl _) (.bool ((q : Int) != (r : Int))))
      clear hrow hq hr
      go_wp2_with fail
      go_region_law (fail)
      all_goals
        have HS2 := hid (HS.out.of_block (w' := (wr.setCell ⟨w.heap.size, j, none⟩ (.bool ((q : Int) != (r : Int)))).drew) rfl)
        have HBS2 := hid (Below.drew HBS.out)
        obtain ⟨W, hW⟩ : ∃ W, W = (wr.setCell ⟨w.heap.size, j, none⟩ (.bool ((q : Int) != (r : Int)))).drew := ⟨_, rfl⟩
        rw [← hW] at HS2 HBS2 ⊢
        clear hW hz hfz v1 v2 v3 v4
        go_wp2_with fail
        go_roundw
        case rel => exact ⟨j + 1, by go_num, hlt, HS2.out.congr (fun t ht => by
          by_cases e : t = j
          · subst e; rw [if_pos rfl, if_pos (by omega), HQR.out]
          · rw [if_neg e]
            by_cases h2 : t < j
            · rw [if_pos h2, if_pos (by omega)]
            · rw [if_neg h2, if_neg (by omega)]), HBS2.out⟩
        case measure => simp [intOf]; omega
    · have HR0 := hid (hrow.congr (g := fun t => .bool ((L0T n).getD t false)) (fun t ht => by rw [if_pos (by omega), HL0.out t ht]))
      have HB1 := hid (HB.out.alloc HB.out.size (.cells #[.int .i64 0] 3))
      have HO1 := hid ((Own.lit1 wr 0).mono (show w.heap.size + 1 ≤ wr.heap.size from HR0.out.lt))
      have HR1 := hid (HR0.out.of_block (((Below.refl wr.heap.size wr).alloc (Nat.le_refl _) (.cells #[.int .i64 0] 3)).block w.heap.size HR0.out.lt))
      obtain ⟨RES, hRES⟩ : ∃ RES, RES = trT n N 0 (L0T n) [0] := ⟨_, rfl⟩
      have HRES := hid hRES
      have hn3 : 0 < n := by omega
      clear hrow hRES
      go_wp2_with fail
      go_loopw [5] (fun vp wr => ∃ (e last m : Nat) (L : List Bool) (out : List Int), m = out.length ∧ m + e = N + 1 ∧ 1 ≤ m ∧ Own wr (w.heap.size + 1) vp out ∧ out.getD (m - 1) 0 = (last : Int) ∧ last < n ∧ L.length = P ∧ wr.rowIs w.heap.size 4 P (fun t => .bool (L.getD t false)) ∧ okT n e last L = true ∧ RES = trT n e last L out ∧ Below w.heap.size w wr) (fun vp _ => N + 1 - lenOf vp)
      case atStart => exact ⟨N, 0, 1, L0T n, [0], rfl, by omega, Nat.le_refl _, HO1.out, rfl, hn3, HLL.out, HR1.out, HT1.out, HRES.out, HB1.out⟩
      case round =>
        obtain ⟨e, last, m, L, out, hm, hme2, hm1, hown, hlast, hln, hLl, hrow, hok, hres, hbel⟩ := hrel
        have HO := hid hown
        have HB := hid hbel
        have HROW := hid hrow
        have HRES2 := hid hres
        have HOK := hid hok
        have HM := hid hm
        have HLST := hid hlast
        have HLL2 := hid hLl
        obtain ⟨g6, n6, c6, rfl⟩ := Own.shape hown (by rw [← hm]; omega)
        obtain ⟨p0, p1, p2, p3, p4, p5, p6⟩ := Own_cells hown
        rw [← hm] at p0 p1
        have p0 := p0.symm
        subst p0
        obtain ⟨k6, hk6⟩ : ∃ k6, m = k6 + 1 := ⟨m - 1, by omega⟩
        have hmk6 : (m : Int) - 1 = (k6 : Int) := by omega
        have hc6 : wr.cell? ⟨g6, k6, none⟩ = some (.int .i64 (last : Int)) := by
          have hlt6 : k6 < out.length := by rw [← hm]; omega
          rw [p5 k6 hlt6, ← getD_at hlt6]
          rw [show m - 1 = k6 by omega] at hlast
          rw [hlast]
        have HK6 := hid hk6
        have hk6lt : (k6 : Int) < (m : Int) := by omega
        have hk60 : (0 : Int) ≤ (k6 : Int) := by omega
        have hnb : ∀ W : World, Own W (w.heap.size + 1) (.slice (some ⟨g6, 0, none⟩) m c6) out → ∀ k v, Own (W.setCell ⟨w.heap.size, k, none⟩ v) (w.heap.size + 1) (.slice (some ⟨g6, 0, none⟩) m c6) out := fun W h k v => Own.kept h (grownBy_setX W w.heap.size k v) (.inr (by simp [Value.ownBlock]; omega))
        have HNB := hid hnb
        have HP1 := hid p1
        clear hown hbel hrow hres hok hm hlast p1 p5 p6 hnb hLl hk6
        by_cases hmN : m ≤ N
        · obtain ⟨e', he⟩ : ∃ e', e = e' + 1 := ⟨e - 1, by omega⟩
          have HE := hid (show (m + 1) + e' = N + 1 by omega)
          have HOK2 := hid (show 0 ≤ (nxT n last n L (-1)).2 ∧ okT n e' (nxT n last n L (-1)).2.toNat (cutT n (nxT n last n L (-1)).1 last (nxT n last n L (-1)).2.toNat) = true by
            have := HOK.out
            rw [he, okT, Bool.and_eq_true, decide_eq_true_eq] at this
            exact this)
          have HRES3 := hid (show RES = trT n e' (nxT n last n L (-1)).2.toNat (cutT n (nxT n last n L (-1)).1 last (nxT n last n L (-1)).2.toNat) (out ++ [(nxT n last n L (-1)).2]) by
            rw [HRES2.out, he, trT])
          have hmN2 : (m : Int) ≤ (N : Int) := by omega
          obtain ⟨ln, hln2⟩ : ∃ ln, ln = last * n := ⟨_, rfl⟩
          have hlni : (last : Int) * (n : Int) = (ln : Int) := by rw [hln2, Int.natCast_mul]
          have hln121 : ln ≤ 121 := by rw [hln2]; exact Nat.mul_le_mul (show last ≤ 11 by omega) t4
          have HLN := hid hln2
          obtain ⟨wo, rfl⟩ : ∃ wo : World, wo = wr := ⟨_, rfl⟩
          clear he hln2
          go_wp2_with fail
          go_loopw [7, 8] (fun nv i wr => ∃ (x nx : Int) (d : Nat) (L2 : List Bool), i = .int .i64 x ∧ nv = .int .i64 nx ∧ x + 1 = (d : Int) ∧ d ≤ n ∧ nxT n last n L (-1) = nxT n last d L2 nx ∧ L2.length = P ∧ wr.rowIs w.heap.size 4 P (fun t => .bool (L2.getD t false)) ∧ -1 ≤ nx ∧ nx < n ∧ Own wr (w.heap.size + 1) (.slice (some ⟨g6, 0, none⟩) m c6) out ∧ Below w.heap.size w wr) (fun _ i _ => (intOf i + 1).toNat)
          case atStart => exact ⟨(n : Int) - 1, -1, n, L, rfl, rfl, by omega, Nat.le_refl _, rfl, HLL2.out, HROW.out, by omega, by omega, HO.out, HB.out⟩
          case round =>
            obtain ⟨x, nx, d, L2, rfl, rfl, hxd, hdn, hnxt, hl2, hrow2, hnx1, hnx2, hown2, hbel2⟩ := hrel
            have HNX := hid hnxt
            have HL2 := hid hl2
            have HR2 := hid hrow2
            have HO2 := hid hown2
            have HB2 := hid hbel2
            have HXD := hid hxd
            clear hnxt hl2 hown2 hbel2 hxd
            by_cases hx0 : 0 ≤ x
            · obtain ⟨y, rfl⟩ : ∃ y : Nat, x = (y : Int) := ⟨x.toNat, by omega⟩
              have hyn : y < n := by have := HXD.out; omega
              have HDY := hid (show d = y + 1 by have := HXD.out; omega)
              obtain ⟨i1, hi1⟩ : ∃ i1, i1 = ln + y := ⟨_, rfl⟩
              have hii1 : (ln : Int) + (y : Int) = (i1 : Int) := by omega
              have hi1P : i1 < P := by rw [HPP.out, hi1, HLN.out]; exact tie_idx hln hyn
              obtain ⟨yn, hyn2⟩ : ∃ yn, yn = y * n := ⟨_, rfl⟩
              have hyni : (y : Int) * (n : Int) = (yn : Int) := by rw [hyn2, Int.natCast_mul]
              have hyn121 : yn ≤ 121 := by rw [hyn2]; exact Nat.mul_le_mul (show y ≤ 11 by omega) t4
              obtain ⟨i2, hi2⟩ : ∃ i2, i2 = yn + last := ⟨_, rfl⟩
              have hii2 : (yn : Int) + (last : Int) = (i2 : Int) := by omega
              have hi2P : i2 < P := by rw [HPP.out, hi2, hyn2]; exact tie_idx hyn hln
              have HI1 := hid (show last * n + y = i1 by rw [hi1, HLN.out])
              have HI2 := hid (show y * n + last = i2 by rw [hi2, hyn2])
              have hcl := hrow2.cell hi1P
              have hf1 := hrow2.frozen i1
              clear hi1 hi2 hyn2 hrow2
              cases hbl : L2.getD i1 false with
              | false =>
                rw [hbl] at hcl
                have HST := hid (show nxT n last d L2 nx = nxT n last y L2 nx by rw [HDY.out]; exact nxT_no (by rw [HI1.out]; exact hbl))
                go_wp2_with fail
                go_roundw
                case rel => exact ⟨(y : Int) - 1, nx, y, L2, rfl, rfl, by omega, by omega, by rw [HNX.out, HST.out], HL2.out, HR2.out, hnx1, hnx2, HO2.out, HB2.out⟩
                case measure => first | (simp [intOf]; done) | (simp [intOf]; omega)
              | true =>
                rw [hbl] at hcl
                have HST := hid (show nxT n last d L2 nx = nxT n last y (putT n (cutT n L2 last y) last y) (if tiT n (cutT n L2 last y) y then (y : Int) else nx) by rw [HDY.out]; exact nxT_yes (by rw [HI1.out]; exact hbl))
                have hr3 := rowB_set (i := i1) HR2.out HL2.out false
                have hr4 := rowB_set (i := i2) hr3 (by simp [HL2.out]) false
                obtain ⟨⟨z2, hz2'⟩, hf2⟩ := row_has hr3 hi2P
                have HR4 := hid (show ((wr.setCell ⟨w.heap.size, i1, none⟩ (.bool false)).setCell ⟨w.heap.size, i2, none⟩ (.bool false)).rowIs w.heap.size 4 P (fun t => .bool ((cutT n L2 last y).getD t false)) by
                  unfold cutT; rw [HI1.out, HI2.out]; exact hr4)
                have HCL := hid (show (cutT n L2 last y).length = P by rw [cutT_len]; exact HL2.out)
                have HO4 := hid (HNB.out _ (HNB.out _ HO2.out i1 (.bool false)) i2 (.bool false))
                have HB4 := hid ((HB2.out.setCell (p := ⟨w.heap.size, i1, none⟩) (Nat.le_refl _) (.bool false)).setCell (p := ⟨w.heap.size, i2, none⟩) (Nat.le_refl _) (.bool false))
                clear hr3 hr4
                cases hti : tiT n (cutT n L2 last y) y with
                | true =>
                  rw [hti] at HST
                  go_wp2_with (first
                    | (go_at_call 139; (refine (suTied_any n P w.heap.size y (cutT n L2 last y) _ t4 HPP.out hyn HR4.out).mono ?_); (rintro e w5 ⟨rfl, hb5⟩); (rw [hti]); (have hr5 := HR4.out.of_block (hb5.block w.heap.size HR4.out.lt)); (have HR5 := hid hr5); (have HO5 := hid (HO4.out.below hb5)); (have HB5 := hid (HB4.out.trans (hb5.mono HB4.out.size)));
                        (obtain ⟨⟨z5, hz5⟩, hf5⟩ := row_has hr5 hi1P); (obtain ⟨⟨z6, hz6⟩, hf6⟩ := row_has (rowB_set (i := i1) hr5 HCL.out true) hi2P); (clear hb5 hr5))
                    | fail)
                  have HR7 := hid (show ((w5.setCell ⟨w.heap.size, i1, none⟩ (.bool true)).setCell ⟨w.heap.size, i2, none⟩ (.bool true)).rowIs w.heap.size 4 P (fun t => .bool ((putT n (cutT n L2 last y) last y).getD t false)) by
                    unfold putT; rw [HI1.out, HI2.out]; exact rowB_set (i := i2) (rowB_set (i := i1) HR5.out HCL.out true) (by simp [HCL.out]) true)
                  have HO7 := hid (HNB.out _ (HNB.out _ HO5.out i1 (.bool true)) i2 (.bool true))
                  have HB7 := hid ((HB5.out.setCell (p := ⟨w.heap.size, i1, none⟩) (Nat.le_refl _) (.bool true)).setCell (p := ⟨w.heap.size, i2, none⟩) (Nat.le_refl _) (.bool true))
                  go_roundw
                  case rel => exact ⟨(y : Int) - 1, (y : Int), y, _, rfl, rfl, by omega, by omega, by rw [HNX.out, HST.out]; rfl, by rw [putT_len]; exact HCL.out, HR7.out, by omega, by omega, HO7.out, HB7.out⟩
                  case measure => first | (simp [intOf]; done) | (simp [intOf]; omega)
                | false =>
                  rw [hti] at HST
                  go_wp2_with (first
                    | (go_at_call 139; (refine (suTied_any n P w.heap.size y (cutT n L2 last y) _ t4 HPP.out hyn HR4.out).mono ?_); (rintro e w5 ⟨rfl, hb5⟩); (rw [hti]); (have hr5 := HR4.out.of_block (hb5.block w.heap.size HR4.out.lt)); (have HR5 := hid hr5); (have HO5 := hid (HO4.out.below hb5)); (have HB5 := hid (HB4.out.trans (hb5.mono HB4.out.size)));
                        (obtain ⟨⟨z5, hz5⟩, hf5⟩ := row_has hr5 hi1P); (obtain ⟨⟨z6, hz6⟩, hf6⟩ := row_has (rowB_set (i := i1) hr5 HCL.out true) hi2P); (clear hb5 hr5))
                    | fail)
                  have HR7 := hid (show ((w5.setCell ⟨w.heap.size, i1, none⟩ (.bool true)).setCell ⟨w.heap.size, i2, none⟩ (.bool true)).rowIs w.heap.size 4 P (fun t => .bool ((putT n (cutT n L2 last y) last y).getD t false)) by
                    unfold putT; rw [HI1.out, HI2.out]; exact rowB_set (i := i2) (rowB_set (i := i1) HR5.out HCL.out true) (by simp [HCL.out]) true)
                  have HO7 := hid (HNB.out _ (HNB.out _ HO5.out i1 (.bool true)) i2 (.bool true))
                  have HB7 := hid ((HB5.out.setCell (p := ⟨w.heap.size, i1, none⟩) (Nat.le_refl _) (.bool true)).setCell (p := ⟨w.heap.size, i2, none⟩) (Nat.le_refl _) (.bool true))
                  go_roundw
                  case rel => exact ⟨(y : Int) - 1, nx, y, _, rfl, rfl, by omega, by omega, by rw [HNX.out, HST.out]; rfl, by rw [putT_len]; exact HCL.out, HR7.out, hnx1, hnx2, HO7.out, HB7.out⟩
                  case measure => first | (simp [intOf]; done) | (simp [intOf]; omega)
            · have HD0 := hid (show d = 0 by have := HXD.out; omega)
              have HNE := hid (show nxT n last n L (-1) = (L2, nx) by rw [HNX.out, HD0.out]; rfl)
              have hnx0 : 0 ≤ nx := by have := HOK2.out.1; rw [HNE.out] at this; exact this
              obtain ⟨a, rfl⟩ : ∃ a : Nat, nx = (a : Int) := ⟨nx.toNat, by omega⟩
              have han : a < n := by omega
              have HOK3 := hid (show okT n e' a (cutT n L2 last a) = true by have := HOK2.out.2; rw [HNE.out] at this; exact this)
              have HRES4 := hid (show RES = trT n e' a (cutT n L2 last a) (out ++ [(a : Int)]) by rw [HRES3.out, HNE.out]; rfl)
              obtain ⟨i1, hi1⟩ : ∃ i1, i1 = ln + a := ⟨_, rfl⟩
              have hii1 : (ln : Int) + (a : Int) = (i1 : Int) := by omega
              have hi1P : i1 < P := by rw [HPP.out, hi1, HLN.out]; exact tie_idx hln han
              obtain ⟨yn, hyn2⟩ : ∃ yn, yn = a * n := ⟨_, rfl⟩
              have hyni : (a : Int) * (n : Int) = (yn : Int) := by rw [hyn2, Int.natCast_mul]
              have hyn121 : yn ≤ 121 := by rw [hyn2]; exact Nat.mul_le_mul (show a ≤ 11 by omega) t4
              obtain ⟨i2, hi2⟩ : ∃ i2, i2 = yn + last := ⟨_, rfl⟩
              have hii2 : (yn : Int) + (last : Int) = (i2 : Int) := by omega
              have hi2P : i2 < P := by rw [HPP.out, hi2, hyn2]; exact tie_idx han hln
              have HI1 := hid (show last * n + a = i1 by rw [hi1, HLN.out])
              have HI2 := hid (show a * n + last = i2 by rw [hi2, hyn2])
              obtain ⟨⟨z1, hz1'⟩, hf1⟩ := row_has hrow2 hi1P
              have hr3 := rowB_set (i := i1) HR2.out HL2.out false
              have hr4 := rowB_set (i := i2) hr3 (by simp [HL2.out]) false
              obtain ⟨⟨z2, hz2'⟩, hf2⟩ := row_has hr3 hi2P
              have HR4 := hid (show ((wr.setCell ⟨w.heap.size, i1, none⟩ (.bool false)).setCell ⟨w.heap.size, i2, none⟩ (.bool false)).rowIs w.heap.size 4 P (fun t => .bool ((cutT n L2 last a).getD t false)) by
                unfold cutT; rw [HI1.out, HI2.out]; exact hr4)
              have HCL := hid (show (cutT n L2 last a).length = P by rw [cutT_len]; exact HL2.out)
              have HO4 := hid (HNB.out _ (HNB.out _ HO2.out i1 (.bool false)) i2 (.bool false))
              have HB4 := hid ((HB2.out.setCell (p := ⟨w.heap.size, i1, none⟩) (Nat.le_refl _) (.bool false)).setCell (p := ⟨w.heap.size, i2, none⟩) (Nat.le_refl _) (.bool false))
              clear hr3 hr4 hrow2 hi1 hi2 hyn2
              obtain ⟨W, hW⟩ : ∃ W, W = (wr.setCell ⟨w.heap.size, i1, none⟩ (.bool false)).setCell ⟨w.heap.size, i2, none⟩ (.bool false) := ⟨_, rfl⟩
              rw [← hW] at HR4 HO4 HB4
              have hWs : wr.heap.size = W.heap.size := by rw [hW]; simp
              have HWS := hid hWs
              have HW := hid hW
              have hm6 : m ≤ 1048576 := by omega
              clear hW hWs
              go_wp2_with (first
                | (at_builtin; (rw [← HW.out]); (refine wpList_push W rfl _ _ 22 rfl (w.heap.size + 1) i0 Try.underlying22 hi hz0 hz1 hz2 (some ⟨g6, 0, none⟩) m c6 out rfl HO4.out (a : Int) wr.heap.size HWS.out.symm rfl hm6 (show w.heap.size + 1 ≤ W.heap.size from HR4.out.lt) ?_); (intro g8 c8 w8 hp8); (have HO8 := hid hp8.own); (have HB8 := hid (hp8.under w.heap.size w (Nat.le_succ _) (Nat.le_of_lt HR4.out.lt) HB4.out)); (have HR8 := hid (HR4.out.of_block (hp8.block w.heap.size HR4.out.lt (by simp [Value.ownBlock]; omega)))); (clear hp8))
                | fail)
              go_roundw
              case rel => exact ⟨e', a, m + 1, cutT n L2 last a, out ++ [(a : Int)], by rw [List.length_append, ← HM.out]; rfl, HE.out, by omega, HO8.out, by
                rw [Nat.add_sub_cancel, List.getD_eq_getElem?_getD, List.getElem?_append_right (by rw [← HM.out]; exact Nat.le_refl _), ← HM.out, Nat.sub_self]; rfl, han, HCL.out, HR8.out, HOK3.out, HRES4.out, HB8.out⟩
              case measure => simp [lenOf]; omega
        · have hmN3 : m = N + 1 := by omega
          have HRF := hid (show trW n = out.take (m - 1) by
            rw [HTW.out, ← HRES.out, HRES2.out, show e = 0 by omega, trT, hmN3]; rfl)
          have HK7 := hid (show m - 1 = k6 by omega)
          have hkc : (k6 : Int) ≤ (c6 : Int) := by have := HP1.out; omega
          clear hmN3
          go_wp2_with fail
          go_ret
          exact ⟨_, rfl, by rw [HRF.out, HK7.out]; exact (HO.out.cut k6 (by rw [← HM.out]; omega)).mono (Nat.le_succ _), HB.out⟩
end Go.Proofs.Yteimfdpkodcfbaa
