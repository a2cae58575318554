/- Contract: the closure of GreedyList. Conditions: the ranks met are those of the lists so far; the list is a new one of them. -/
import Derived.Test.YteenmndgejeihaaGrM
import Derived.Test.YteenmndgejeihaaMvI7
import Derived.Test.YteenmndgejeihaaPrk
namespace Go.Proofs.Yteenmndgejeihaa
open Go.RowKit
set_option linter.unusedVariables false
set_option maxRecDepth 4000

theorem met_set {w : World} {gt F r : Nat} {D : List (List Int)} {x : List Int} (h : w.rowIs gt 4 F (metF D)) (hr : r = rankR x) : (w.setCell ⟨gt, r, none⟩ (.bool true)).rowIs gt 4 F (metF (D ++ [x])) :=
  (h.set r (.bool true)).congr (fun q hq => by
    subst hr
    by_cases e : q = rankR x
    · subst e
      simp [metF, metB_push]
    · simp [metF, metB_push, e])
set_option maxHeartbeats 1000000 in
theorem greedyClos_any (N : Nat) (ms : List Mv) (gm gt F : Nat) (D E : List (List Int)) (x : List Int) (v : Value) (a b : Addr) (w : World) (h5 : N ≤ 5) (h1 : 1 ≤ N) (hF : F = fact N) (hml : ms.length ≤ 12)
    (hg : ∀ t, t < ms.length → mvAt N ms t = true) (hE : E = D ++ [x]) (hGI : GI N E) (ha : w.cell? a = some (.slice (some ⟨gt, 0, none⟩) F F)) (hb : w.cell? b = some (.slice (some ⟨gm, 0, none⟩) ms.length ms.length))
    (hmv : RowMv w gm ms) (hmet : w.rowIs gt 4 F (metF D)) (hs : Own w (gt + 1) v x) (hag : a.block ≠ gt) (hbg : b.block ≠ gt) (hmg : gm ≠ gt) :
    Calls Try.prog 100 #[v, .pointer (some a), .pointer (some b)] w fun e w' => ∃ u, e = .returned (.tuple #[u, .bool (decide (0 ≤ nwI E ms))]) ∧
      (0 ≤ nwI E ms → Own w' w.heap.size u (mvM (mGet ms (nwI E ms).toNat) x)) ∧ w'.rowIs gt 4 F (metF E) ∧ w.grownBy w' (some gt) := by
  have hxP : PN N x := hGI.2.2 x (by rw [hE]; simp)
  have HE := hid hE
  have hxl := hxP.len
  obtain ⟨gx, nx, cx, hve⟩ := Own.shape hs (by omega)
  obtain ⟨ao, c, hve2⟩ := hs.sliceF
  have hgx := (World.ownsRow.lt hs gx (by rw [hve]; rfl))
  have hst := hs.kept (grownBy_setCellAt w gt (rankR x) (.bool true)) (.inr (by rw [hve]; simp only [Value.ownBlock, ne_eq, Option.some.injEq]; omega))
  have HSIT := hid (show Sits w v x by rw [hve] at hs ⊢; exact hs.sits)
  have HSIT2 := hid (show Sits (w.setCell ⟨gt, rankR x, none⟩ (.bool true)) v x by rw [hve] at hst ⊢; exact hst.sits)
  subst hve2
  have HG := hid hg
  have HGI := hid hGI
  have HML := hid (show ∀ t, t < ms.length → mvB (x.length : Int) (mGet ms t).1 (mGet ms t).2.1 (mGet ms t).2.2 = true from fun t ht => by rw [hxl]; exact hg t ht)
  have hr := rk_lt hxP
  rw [← hF] at hr
  obtain ⟨r, hrr⟩ : ∃ r, r = rankR x := ⟨_, rfl⟩
  have HRR := hid hrr
  rw [← hrr] at hr HSIT2 hst
  have hcz := hmet.cell (i := r) hr
  have hfz := hmet.frozen r
  have HMS := hid (show (w.setCell ⟨gt, r, none⟩ (.bool true)).rowIs gt 4 F (metF E) by rw [HE.out]; exact met_set hmet HRR.out)
  have hgs := grownBy_setCellAt w gt r (.bool true)
  have hab := World.block_lt_of_cell? w _ ha
  have hbb := World.block_lt_of_cell? w _ hb
  have hgmb := World.rowIs.lt hmv
  have hna : a ≠ ⟨gt, r, none⟩ := fun e => hag (by rw [e])
  have hnb : b ≠ ⟨gt, r, none⟩ := fun e => hbg (by rw [e])
  have ha1 := cell_set_ne (v := .bool true) ha hna
  have hb1 := cell_set_ne (v := .bool true) hb hnb
  have HMV1 := hid (World.rowIs.of_block hmv (hgs.block gm hgmb (by simp only [ne_eq, Option.some.injEq]; exact hmg)))
  have HGS := hid hgs
  have hr0 : (0 : Int) ≤ (r : Int) := by omega
  have hr1 : (r : Int) < (F : Int) := by omega
  have hx12 : x.length ≤ 12 := by omega
  obtain ⟨zz, hzz⟩ : ∃ zz, w.cell? ⟨gt, r, none⟩ = some zz := ⟨_, hcz⟩
  have HXL := hid hxl
  have HXP := hid hxP
  have HFF := hid hF
  clear hE hxP hxl hve hgx hst hs hg hGI hrr hcz hgs hmet hmv hF
  go_enter Try.func100, Try.ntmps100
  go_wp2_with fail
  go_region_held3 (fun w' => w'.cell? a = some (.slice (some ⟨gt, 0, none⟩) F F))
    (first | exact ha | exact ha1 | go_keep | fail)
    (first
      | (go_at_call 101; refine (permutationRank_any _ x _ (HSIT.out.below (Below.refl _ _).drew) hx12).mono ?_; rintro e w1 ⟨rfl, rfl⟩; rw [← HRR.out])
      | fail)
  all_goals
    obtain ⟨wd, hwd⟩ : ∃ wd, wd = (w.setCell ⟨gt, r, none⟩ (.bool true)).drew := ⟨_, rfl⟩
    have ha2 : wd.cell? a = some (.slice (some ⟨gt, 0, none⟩) F F) := by rw [hwd]; exact ha1
    have hb2 : wd.cell? b = some (.slice (some ⟨gm, 0, none⟩) ms.length ms.length) := by rw [hwd]; exact hb1
    have HMV2 := hid (show RowMv wd gm ms by rw [hwd]; exact HMV1.out)
    have HMT2 := hid (show wd.rowIs gt 4 F (metF E) by rw [hwd]; exact HMS.out)
    have HSI2 := hid (show Sits wd (.slice ao x.length c) x by rw [hwd]; exact HSIT2.out)
    have HGD := hid (show w.grownBy wd (some gt) by rw [hwd]; exact ⟨HGS.out.os, HGS.out.tape, HGS.out.output, HGS.out.size, HGS.out.block⟩)
    have hwsz : w.heap.size ≤ wd.heap.size := HGD.out.size
    rw [← hwd]
    have HNW := hid (show ∀ t, t < ms.length → nwAt E ms t = !(metB E (rankR (mvM (mGet ms t) x))) from fun t ht => by have hgi := HGI.out; rw [HE.out] at hgi ⊢; exact nwAt_met hgi (HG.out t ht))
    clear hwd ha1 hb1 hna hnb hfz hzz ha hb
    go_wp2_with fail
    go_loopw [15] (fun i wr => ∃ t : Nat, t ≤ ms.length ∧ i = .int .i64 t ∧ nwI E ms = firstI (nwAt E ms) t (ms.length - t) ∧ Below wd.heap.size wd wr) (fun i _ => ms.length - (intOf i).toNat)
    case atStart => exact ⟨0, Nat.zero_le _, rfl, rfl, Below.refl _ _⟩
    case round =>
      obtain ⟨t, ht, rfl, hall, hbel⟩ := hrel
      have HA := hid hall
      have HB := hid hbel
      clear hall
      by_cases hlt : t < ms.length
      · have HMV3 := hid (RowMv.below HMV2.out hbel)
        have HSI3 := hid (HSI2.out.below hbel)
        have HMT3 := hid (World.rowIs.of_block HMT2.out (hbel.block gt (World.rowIs.lt HMT2.out)))
        have hgtr := World.rowIs.lt HMT3.out
        have ha3 := cell_below2 ha2 hbel
        obtain ⟨T, X, hV⟩ := mvV_iface (mGet ms t)
        have hcm2 : wr.cell? ⟨gm, t, none⟩ = some (.iface T X) := by rw [← hV]; exact HMV3.out.cell hlt
        obtain ⟨y, hy⟩ : ∃ y, y = mvM (mGet ms t) x := ⟨_, rfl⟩
        have HY := hid hy
        have hyP : PN N y := by rw [hy]; exact mvM_PN HXP.out (HG.out t hlt)
        have hyl := hyP.len
        have hry := rk_lt hyP
        have hFo := HFF.out
        rw [← hFo] at hry
        obtain ⟨q, hq⟩ : ∃ q, q = rankR y := ⟨_, rfl⟩
        have HQ := hid hq
        rw [← hq] at hry
        have HCON := hid (show ∀ (v : Value) (W : World), Sits W v x → Calls Try.prog 80 #[.iface T X, v] W (fun e w' => ∃ g5 n5 c5, e = .returned (.slice (some ⟨g5, 0, none⟩) n5 c5) ∧ Own w' W.heap.size (.slice (some ⟨g5, 0, none⟩) n5 c5) y ∧ Below W.heap.size W w') from fun v W h => by
          rw [← hV]
          refine (movedBy_any (mGet ms t) v x W h (by omega) (HML.out t hlt)).mono ?_
          rintro e w' ⟨rfl, hr, hb⟩
          exact ⟨_, _, _, rfl, by rw [HY.out]; exact RowL.own hr (mvM_len _ _) (by omega), hb⟩)
        have HR1 := hid (show ms.length - t = (ms.length - (t + 1)) + 1 by omega)
        have q1 : (0 : Int) ≤ (t : Int) := by omega
        have q2 : (t : Int) < (ms.length : Int) := by omega
        have q3 : (0 : Int) ≤ (q : Int) := by omega
        have q4 : (q : Int) < (F : Int) := by omega
        have hy12 : y.length ≤ 12 := by omega
        obtain ⟨bb, hbbq⟩ : ∃ bb, bb = metB E q := ⟨_, rfl⟩
        have HBQ := hid hbbq
        have HNT := hid (show nwAt E ms t = !bb by rw [HNW.out t hlt, ← hy, ← hq, ← hbbq])
        have hcq := HMT3.out.cell (i := q) hry
        rw [show metF E q = .bool bb by rw [hbbq]] at hcq
        clear hbel hV hy hyP hyl hq hbbq hFo
        cases bb with
        | true =>
          have HF := hid (show nwI E ms = firstI (nwAt E ms) (t + 1) (ms.length - (t + 1)) by rw [HA.out, HR1.out, firstI_miss HNT.out])
          go_wp2_with (first
            | (go_at_call 80; refine (HCON.out _ _ HSI3.out).mono ?_; rintro e w7 ⟨g5, n5, c5, rfl, ho7, hb7⟩; have HO7 := hid ho7; have HSX7 := hid ho7.sits; have HA7 := hid (show Below wr.heap.size wr w7 from hb7); have ha7 := cell_below2 ha3 hb7; have hcq7 := cell_below2 hcq hb7; clear ho7 hb7)
            | fail)
          go_region_held3 (fun w' => w'.cell? a = some (.slice (some ⟨gt, 0, none⟩) F F) ∧ w'.cell? ⟨gt, q, none⟩ = some (.bool true))
            (first | exact ⟨ha7, hcq7⟩ | go_keep | fail)
            (first
              | (go_at_call 101; refine (permutationRank_any _ y _ (HSX7.out.below (Below.refl _ _).drew) hy12).mono ?_; rintro e w8 ⟨rfl, rfl⟩; rw [← HQ.out]; have HA8 := hid (HA7.out.drew))
              | fail)
          all_goals
            go_wp2_with fail
            go_roundw
            case rel => exact ⟨t + 1, by omega, by go_num, HF.out, Below_chain HB.out HA8.out⟩
            case measure => simp [intOf]; omega
        | false =>
          have HF := hid (show nwI E ms = (t : Int) by rw [HA.out, HR1.out, firstI_hit HNT.out])
          go_wp2_with (first
            | (go_at_call 80; refine (HCON.out _ _ HSI3.out).mono ?_; rintro e w7 ⟨g5, n5, c5, rfl, ho7, hb7⟩; have HO7 := hid ho7; have HSX7 := hid ho7.sits; have HA7 := hid (show Below wr.heap.size wr w7 from hb7); have ha7 := cell_below2 ha3 hb7; have hcq7 := cell_below2 hcq hb7; clear ho7 hb7)
            | fail)
          go_region_held3 (fun w' => w'.cell? a = some (.slice (some ⟨gt, 0, none⟩) F F) ∧ w'.cell? ⟨gt, q, none⟩ = some (.bool false))
            (first | exact ⟨ha7, hcq7⟩ | go_keep | fail)
            (first
              | (go_at_call 101; refine (permutationRank_any _ y _ (HSX7.out.below (Below.refl _ _).drew) hy12).mono ?_; rintro e w8 ⟨rfl, rfl⟩; rw [← HQ.out]; have HA8 := hid (HA7.out.drew))
              | fail)
          all_goals
            have hf0 := HF.out
            go_wp2_with fail
            go_ret2
            exact ⟨_, ret_sbA (by rw [hf0]; simp), fun _ => by rw [hf0, Int.toNat_natCast, ← HY.out]; exact HO7.out.mono (Nat.le_trans hwsz HB.out.size), World.rowIs.of_block HMT2.out ((Below_chain HB.out HA8.out).block gt (World.rowIs.lt HMT2.out)), grown_below HGD.out (Below_chain HB.out HA8.out)⟩
      · obtain rfl : t = ms.length := by omega
        have HF := hid (show nwI E ms = -1 by rw [HA.out, Nat.sub_self]; rfl)
        have hf0 := HF.out
        clear hbel
        go_wp2_with fail
        go_ret2
        exact ⟨_, ret_sbA (by rw [hf0]; simp), fun h => by rw [hf0] at h; omega, World.rowIs.of_block HMT2.out (HB.out.block gt (World.rowIs.lt HMT2.out)), grown_below HGD.out HB.out⟩
end Go.Proofs.Yteenmndgejeihaa
