/- The walk of the law FnExactFollowMoves. Conditions: none. -/
import Derived.Test.YteenmndgejeihaaMvI7
import Derived.Test.YteenmndgejeihaaBs1
import Derived.Test.YteenmndgejeihaaBs4
namespace Go.Proofs.Yteenmndgejeihaa
open Go.RowKit
set_option linter.unusedVariables false
set_option maxRecDepth 4000

set_option maxHeartbeats 1000000 in
theorem walk_FnExactFollowMoves (a0 : Int) (a1 : Option Addr) (len1 cap1 : Nat) (z1 : List Mv) (a2 : Option Addr) (len2 cap2 : Nat) (z2 : List Int) (w : World) (w0 : (Lit.int .i64 a0).wf = true) (w1 : ReadsM w (.slice a1 len1 cap1) z1 ∧ z1.length = len1 ∧ wfM z1) (w2 : IsRow .i64 w a2 len2 cap2 z2) :
    Calls Try.prog 12 #[.int .i64 a0, .slice a1 len1 cap1, .slice a2 len2 cap2] w fun e w' => e = .returned (.bool true) ∧ Below w.heap.size w w' := by
  have HBASE := hid (Below.refl w.heap.size w)
  obtain ⟨hr2, hlen2⟩ := w2.reads
  have wf2 := hid w2.wf
  generalize z2.take len2 = xs2 at hr2 hlen2 wf2
  subst hlen2
  clear w2
  have HR2 := hid (hr2.below HBASE.out)
  clear hr2
  obtain ⟨hr1, hlen1, hwf1⟩ := w1
  obtain ⟨ms1, hms1⟩ : ∃ q, q = z1 := ⟨_, rfl⟩
  rw [← hms1] at hr1 hlen1 hwf1
  clear hms1
  subst hlen1
  have wf1 := hid hwf1
  have HR1 := hid (hr1.below HBASE.out)
  have HRo1 := hid hr1
  clear hr1 hwf1
  by_cases hl2 : xs2.length ≤ 1048576
  case neg =>
    go_enter Try.func12, Try.ntmps12
    go_wp2_with fail
    go_ret
    exact ⟨rfl, HBASE.out⟩
  case pos =>
    have B0 : Below w.heap.size w w := Below.refl _ _
    have SB : w.heap.size ≤ w.heap.size := HBASE.out.size
    have HRq2 := hid HR2.out
    have HRq1 := hid HR1.out
    have hX := preLen_fmRes a0 ms1 xs2
    obtain ⟨X, hXX⟩ : ∃ X, X = fmRes a0 ms1 xs2 := ⟨_, rfl⟩
    have HXX := hid hXX
    rw [← hXX] at hX
    obtain ⟨p, hp⟩ : ∃ p, p = preLen X X.length := ⟨_, rfl⟩
    have HP := hid hp
    rw [← hp] at hX
    have hn2 : ((fmB a0 ms1 xs2) != (fmB a0 ms1 xs2)) = false := by simp
    clear hXX hp
    go_enter Try.func12, Try.ntmps12
    go_wp2_with fail
    refine (szMoveS_any _ ms1 1048576 _ HRo1.out (by omega) (by omega)).mono ?_
    rintro e w9 ⟨rfl, rfl⟩
    by_cases hl1 : ms1.length ≤ 1048576
    case neg =>
      rw [if_pos (by omega)]
      go_wp2_with fail
      go_ret
      exact ⟨rfl, HBASE.out⟩
    case pos =>
      rw [if_neg (by omega)]
      have hsz1 : ¬ (1048576 - (ms1.length : Int)) < 0 := by omega
      go_wp2_with fail
      refine (toMoveS_any _ ms1 _ (HR1.out.below B0) hl1).mono ?_
      rintro e W1 ⟨rfl, ho, hb⟩
      have T1 := World.rowIs.lt ho
      have B1 := Below_chain B0 hb; have S1 := hb.size; clear hb B0
      have Lv_s1 := ho; clear ho
      go_wp2_with fail
      refine (toIntS_any _ xs2 _ (HR2.out.below B1) hl2).mono ?_
      rintro e W2 ⟨rfl, ho, hb⟩
      have Lt := Lv_s1.below hb; clear Lv_s1; have Lv_s1 := Lt; clear Lt
      have B2 := Below_chain B1 hb; have S2 := hb.size; clear hb B1
      have Lv_s2 := ho.lives; clear ho
      go_wp2_with fail
      refine (spec_FollowMoves_any _ _ _ _ _ _ (Lv_s1.reads hl1) wf1.out (Lv_s2.sits)).mono ?_
      rintro e W3 ⟨u, rfl, ho, hb⟩
      clear Lv_s1
      clear Lv_s2
      have BU := hid (Below_chain HBASE.out (Below_chain B2 hb)); clear B2 hb
      rw [← HXX.out] at ho
      have HU := hid ho; clear ho
      have Lt := hid (HRq2.out.below BU.out); clear HR2; have HR2 := hid Lt.out; clear Lt
      have Lt := hid (HRq1.out.below BU.out); clear HR1; have HR1 := hid Lt.out; clear Lt
      have B3 : Below W3.heap.size W3 W3 := Below.refl _ _
      go_wp2_with fail
      refine (toMoveS_any _ ms1 _ (HR1.out.below B3) hl1).mono ?_
      rintro e W4 ⟨rfl, ho, hb⟩
      have T4 := World.rowIs.lt ho
      have B4 := Below_chain B3 hb; have S4 := hb.size; clear hb B3
      have Lv_x1 := ho; clear ho
      go_wp2_with fail
      refine (toIntS_any _ xs2 _ (HR2.out.below B4) hl2).mono ?_
      rintro e W5 ⟨rfl, ho, hb⟩
      have Lt := Lv_x1.below hb; clear Lv_x1; have Lv_x1 := Lt; clear Lt
      have B5 := Below_chain B4 hb; have S5 := hb.size; clear hb B4
      have Lv_x2 := ho.lives; clear ho
      go_wp2_with fail
      refine (impl_FollowMoves_any _ _ _ _ _ _ (Lv_x1.reads hl1) (Lv_x2.sits)).mono ?_
      rintro e W6 ⟨g, rfl, ho, hb⟩
      rw [← HXX.out] at ho
      have Lt := Lv_x1.below hb; clear Lv_x1; have Lv_x1 := Lt; clear Lt
      have Lt := Lv_x2.below hb; clear Lv_x2; have Lv_x2 := Lt; clear Lt
      have B6 := Below_chain B5 hb; have S6 := hb.size; clear hb B5
      have G := hid ho; clear ho
      go_wp2_with fail
      refine (eqIntSS_any _ _ X _ _ _ G.out.lists (HU.out.below B6)).mono ?_
      rintro e W7 ⟨rfl, hb⟩
      have Lt := hid (G.out.below hb); clear G; have G := hid Lt.out; clear Lt
      have Lt := Lv_x1.below hb; clear Lv_x1; have Lv_x1 := Lt; clear Lt
      have Lt := Lv_x2.below hb; clear Lv_x2; have Lv_x2 := Lt; clear Lt
      have B7 := Below_chain B6 hb; have S7 := hb.size; clear hb B6
      go_wp2_with fail
      refine (toMoveS_any _ ms1 _ (HR1.out.below B7) hl1).mono ?_
      rintro e W8 ⟨rfl, ho, hb⟩
      have T8 := World.rowIs.lt ho
      have Lt := hid (G.out.below hb); clear G; have G := hid Lt.out; clear Lt
      have Lt := Lv_x1.below hb; clear Lv_x1; have Lv_x1 := Lt; clear Lt
      have Lt := Lv_x2.below hb; clear Lv_x2; have Lv_x2 := Lt; clear Lt
      have B8 := Below_chain B7 hb; have S8 := hb.size; clear hb B7
      have Lv_y1 := ho; clear ho
      go_wp2_with fail
      refine (eqMoveS_any _ _ ms1 _ (Lv_x1.reads hl1) (Lv_y1.reads hl1)).mono ?_
      rintro e W9 ⟨rfl, hb⟩
      have Lt := hid (G.out.below hb); clear G; have G := hid Lt.out; clear Lt
      have Lt := Lv_x1.below hb; clear Lv_x1; have Lv_x1 := Lt; clear Lt
      have Lt := Lv_x2.below hb; clear Lv_x2; have Lv_x2 := Lt; clear Lt
      have Lt := Lv_y1.below hb; clear Lv_y1; have Lv_y1 := Lt; clear Lt
      have B9 := Below_chain B8 hb; have S9 := hb.size; clear hb B8
      clear Lv_y1
      go_wp2_with fail
      refine (toIntS_any _ xs2 _ (HR2.out.below B9) hl2).mono ?_
      rintro e W10 ⟨rfl, ho, hb⟩
      have Lt := hid (G.out.below hb); clear G; have G := hid Lt.out; clear Lt
      have Lt := Lv_x1.below hb; clear Lv_x1; have Lv_x1 := Lt; clear Lt
      have Lt := Lv_x2.below hb; clear Lv_x2; have Lv_x2 := Lt; clear Lt
      have B10 := Below_chain B9 hb; have S10 := hb.size; clear hb B9
      have Lv_y2 := ho.lives; clear ho
      go_wp2_with fail
      refine (eqIntS_any _ _ xs2 xs2 _ Lv_x2.reads Lv_y2.reads).mono ?_
      rintro e W11 ⟨rfl, hb⟩
      have Lt := hid (G.out.below hb); clear G; have G := hid Lt.out; clear Lt
      have Lt := Lv_x1.below hb; clear Lv_x1; have Lv_x1 := Lt; clear Lt
      have Lt := Lv_x2.below hb; clear Lv_x2; have Lv_x2 := Lt; clear Lt
      have Lt := Lv_y2.below hb; clear Lv_y2; have Lv_y2 := Lt; clear Lt
      have B11 := Below_chain B10 hb; have S11 := hb.size; clear hb B10
      clear Lv_y2
      go_wp2_with fail
      refine (markMoveS_any _ ms1 _ _ Lv_x1 hl1 (by omega) (by omega)).mono ?_
      rintro e W12 ⟨rfl, hg⟩
      have Lt := hid (G.out.stay (fun q h1 h2 => hg.block q h2 (by simp only [ne_eq, Option.some.injEq]; omega))); clear G; have G := hid Lt.out; clear Lt
      clear Lv_x1
      have Lt := Lv_x2.keptRow hg (by omega); clear Lv_x2; have Lv_x2 := Lt; clear Lt
      have B12 := Below.markedRow B11 hg (by omega); have S12 := hg.size; clear hg B11
      have hk1 : ¬ ((1 : Int) + 3 * (ms1.length : Int) < 0) := by omega
      go_wp2_with fail
      refine (markIntS_any _ xs2 _ _ _ Lv_x2.1 (by omega) (by omega) (by omega)).mono ?_
      rintro e W13 ⟨rfl, ho, hg⟩
      have hq2 := Lv_x2.2
      have Lt := hid (G.out.stay (fun q h1 h2 => hg.block q h2 (fun e => by have := hq2 q e.symm; omega))); clear G; have G := hid Lt.out; clear Lt
      have B13 := Below.marked B12 Lv_x2 hg (by omega); have S13 := hg.size; clear hg ho hq2 B12
      clear Lv_x2
      have hk2 : ¬ ((1 : Int) + 3 * (ms1.length : Int) + (xs2.length : Int) < 0) := by omega
      go_wp2_with fail
      refine (eqIntSS_any _ _ X _ _ _ G.out.lists (HU.out.below B13)).mono ?_
      rintro e W14 ⟨rfl, hb⟩
      have Lt := hid (G.out.below hb); clear G; have G := hid Lt.out; clear Lt
      have B14 := Below_chain B13 hb; have S14 := hb.size; clear hb B13
      go_wp2_with fail
      refine (markIntSS_any _ X _ _ _ G.out (by omega) (by omega) (by rw [← HP.out]; omega)).mono ?_
      rintro e W15 ⟨rfl, M, hM, hMl, hMe, hb, hsz⟩
      rw [← HP.out]
      have B15 := B14.trans (hb.mono (by omega)); have S15 := hsz; clear B14
      have Lt := hid hM; clear G; have G := hid Lt.out; clear Lt
      obtain ⟨hmk, hpm⟩ := marked_of hMl hMe
      have HMK := hid hmk
      have HPM := hid (hpm.trans HP.out.symm)
      clear hM hMl hMe hb hsz hmk hpm
      go_wp2_with fail
      refine (heldIntSS_any _ M _ _ _ G.out.lists HMK.out (by omega) (by omega) (by rw [HPM.out]; omega)).mono ?_
      rintro e W16 ⟨rfl, he⟩
      subst he
      rw [HPM.out]
      go_wp2_with fail
      refine (toMoveS_any _ ms1 _ (HR1.out.below B15) hl1).mono ?_
      rintro e W16 ⟨rfl, ho, hb⟩
      have T16 := World.rowIs.lt ho
      have Lt := hid (G.out.below hb); clear G; have G := hid Lt.out; clear Lt
      have B16 := Below_chain B15 hb; have S16 := hb.size; clear hb B15
      have Lv_t1 := ho; clear ho
      go_wp2_with fail
      refine (toIntS_any _ xs2 _ (HR2.out.below B16) hl2).mono ?_
      rintro e W17 ⟨rfl, ho, hb⟩
      have Lt := hid (G.out.below hb); clear G; have G := hid Lt.out; clear Lt
      have Lt := Lv_t1.below hb; clear Lv_t1; have Lv_t1 := Lt; clear Lt
      have B17 := Below_chain B16 hb; have S17 := hb.size; clear hb B16
      have Lv_t2 := ho.lives; clear ho
      go_wp2_with fail
      refine (impl_FollowMoves_any _ _ _ _ _ _ (Lv_t1.reads hl1) (Lv_t2.sits)).mono ?_
      rintro e W18 ⟨h, rfl, ho, hb⟩
      rw [← HXX.out] at ho
      have Lt := hid (G.out.below hb); clear G; have G := hid Lt.out; clear Lt
      have Lt := Lv_t1.below hb; clear Lv_t1; have Lv_t1 := Lt; clear Lt
      have Lt := Lv_t2.below hb; clear Lv_t2; have Lv_t2 := Lt; clear Lt
      have B18 := Below_chain B17 hb; have S18 := hb.size; clear hb B17
      have H := hid ho; clear ho
      go_wp2_with fail
      refine (eqIntSS_any _ _ X _ _ _ H.out.lists (HU.out.below B18)).mono ?_
      rintro e W19 ⟨rfl, hb⟩
      have Lt := hid (G.out.below hb); clear G; have G := hid Lt.out; clear Lt
      have Lt := hid (H.out.below hb); clear H; have H := hid Lt.out; clear Lt
      have Lt := Lv_t1.below hb; clear Lv_t1; have Lv_t1 := Lt; clear Lt
      have Lt := Lv_t2.below hb; clear Lv_t2; have Lv_t2 := Lt; clear Lt
      have B19 := Below_chain B18 hb; have S19 := hb.size; clear hb B18
      go_wp2_with fail
      refine (heldIntSS_any _ M _ _ _ G.out.lists HMK.out (by omega) (by omega) (by rw [HPM.out]; omega)).mono ?_
      rintro e W20 ⟨rfl, he⟩
      subst he
      rw [HPM.out]
      go_wp2_with fail
      go_ret
      exact ⟨rfl, Below_chain BU.out B19⟩
end Go.Proofs.Yteenmndgejeihaa
