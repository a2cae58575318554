/- The walk of the law FnExactGreedyList. Conditions: none. -/
import Derived.Test.YteenmndgejeihaaGrL
import Derived.Test.YteenmndgejeihaaBs1
import Derived.Test.YteenmndgejeihaaBs4
namespace Go.Proofs.Yteenmndgejeihaa
open Go.RowKit
set_option linter.unusedVariables false
set_option maxRecDepth 4000

set_option maxHeartbeats 1000000 in
theorem walk_FnExactGreedyList (a0 : Int) (a1 : Option Addr) (len1 cap1 : Nat) (z1 : List Mv) (w : World) (w0 : (Lit.int .i64 a0).wf = true) (w1 : ReadsM w (.slice a1 len1 cap1) z1 ∧ z1.length = len1 ∧ wfM z1) :
    Calls Try.prog 13 #[.int .i64 a0, .slice a1 len1 cap1] w fun e w' => e = .returned (.bool true) ∧ Below w.heap.size w w' := by
  have HBASE := hid (Below.refl w.heap.size w)
  obtain ⟨hr1, hlen1, hwf1⟩ := w1
  obtain ⟨ms1, hms1⟩ : ∃ q, q = z1 := ⟨_, rfl⟩
  rw [← hms1] at hr1 hlen1 hwf1
  clear hms1
  subst hlen1
  have wf1 := hid hwf1
  have HR1 := hid (hr1.below HBASE.out)
  have HRo1 := hid hr1
  clear hr1 hwf1
  have B0 : Below w.heap.size w w := Below.refl _ _
  have SB : w.heap.size ≤ w.heap.size := HBASE.out.size
  have HRq1 := hid HR1.out
  have hX := preLen_glRes a0 ms1
  obtain ⟨X, hXX⟩ : ∃ X, X = glRes a0 ms1 := ⟨_, rfl⟩
  have HXX := hid hXX
  rw [← hXX] at hX
  obtain ⟨p, hp⟩ : ∃ p, p = preLen X X.length := ⟨_, rfl⟩
  have HP := hid hp
  rw [← hp] at hX
  have hn2 : ((tkB a0 ms1) != (tkB a0 ms1)) = false := by simp
  clear hXX hp
  go_enter Try.func13, Try.ntmps13
  go_wp2_with fail
  refine (szMoveS_any _ ms1 1048576 _ HRo1.out (by omega) (by omega)).mono ?_
  rintro e w9 ⟨rfl, rfl⟩
  by_cases hl1 : ms1.length ≤ 1048576
  case neg =>
    rw [if_pos (by omega)]
    go_wp2_with fail
    go_ret
    exact ⟨rfl, HBASE.out⟩
  case pos =>
    rw [if_neg (by omega)]
    have hsz1 : ¬ (1048576 - (ms1.length : Int)) < 0 := by omega
    go_wp2_with fail
    refine (toMoveS_any _ ms1 _ (HR1.out.below B0) hl1).mono ?_
    rintro e W1 ⟨rfl, ho, hb⟩
    have T1 := World.rowIs.lt ho
    have B1 := Below_chain B0 hb; have S1 := hb.size; clear hb B0
    have Lv_s1 := ho; clear ho
    go_wp2_with fail
    refine (spec_GreedyList_any a0 _ ms1 _ (Lv_s1.reads hl1) wf1.out).mono ?_
    rintro e W2 ⟨u, rfl, ho, hb⟩
    clear Lv_s1
    have BU := hid (Below_chain HBASE.out (Below_chain B1 hb)); clear B1 hb
    rw [← HXX.out] at ho
    have HU := hid ho; clear ho
    have Lt := hid (HRq1.out.below BU.out); clear HR1; have HR1 := hid Lt.out; clear Lt
    have B2 : Below W2.heap.size W2 W2 := Below.refl _ _
    go_wp2_with fail
    refine (toMoveS_any _ ms1 _ (HR1.out.below B2) hl1).mono ?_
    rintro e W3 ⟨rfl, ho, hb⟩
    have T3 := World.rowIs.lt ho
    have B3 := Below_chain B2 hb; have S3 := hb.size; clear hb B2
    have Lv_x1 := ho; clear ho
    go_wp2_with fail
    refine (impl_GreedyList_any a0 _ ms1 _ (Lv_x1.reads hl1)).mono ?_
    rintro e W4 ⟨g, rfl, ho, hb⟩
    rw [← HXX.out] at ho
    have Lt := Lv_x1.below hb; clear Lv_x1; have Lv_x1 := Lt; clear Lt
    have B4 := Below_chain B3 hb; have S4 := hb.size; clear hb B3
    have G := hid ho; clear ho
    go_wp2_with fail
    refine (eqIntSS_any _ _ X _ _ _ G.out.lists (HU.out.below B4)).mono ?_
    rintro e W5 ⟨rfl, hb⟩
    have Lt := hid (G.out.below hb); clear G; have G := hid Lt.out; clear Lt
    have Lt := Lv_x1.below hb; clear Lv_x1; have Lv_x1 := Lt; clear Lt
    have B5 := Below_chain B4 hb; have S5 := hb.size; clear hb B4
    go_wp2_with fail
    refine (toMoveS_any _ ms1 _ (HR1.out.below B5) hl1).mono ?_
    rintro e W6 ⟨rfl, ho, hb⟩
    have T6 := World.rowIs.lt ho
    have Lt := hid (G.out.below hb); clear G; have G := hid Lt.out; clear Lt
    have Lt := Lv_x1.below hb; clear Lv_x1; have Lv_x1 := Lt; clear Lt
    have B6 := Below_chain B5 hb; have S6 := hb.size; clear hb B5
    have Lv_y1 := ho; clear ho
    go_wp2_with fail
    refine (eqMoveS_any _ _ ms1 _ (Lv_x1.reads hl1) (Lv_y1.reads hl1)).mono ?_
    rintro e W7 ⟨rfl, hb⟩
    have Lt := hid (G.out.below hb); clear G; have G := hid Lt.out; clear Lt
    have Lt := Lv_x1.below hb; clear Lv_x1; have Lv_x1 := Lt; clear Lt
    have Lt := Lv_y1.below hb; clear Lv_y1; have Lv_y1 := Lt; clear Lt
    have B7 := Below_chain B6 hb; have S7 := hb.size; clear hb B6
    clear Lv_y1
    go_wp2_with fail
    refine (markMoveS_any _ ms1 _ _ Lv_x1 hl1 (by omega) (by omega)).mono ?_
    rintro e W8 ⟨rfl, hg⟩
    have Lt := hid (G.out.stay (fun q h1 h2 => hg.block q h2 (by simp only [ne_eq, Option.some.injEq]; omega))); clear G; have G := hid Lt.out; clear Lt
    clear Lv_x1
    have B8 := Below.markedRow B7 hg (by omega); have S8 := hg.size; clear hg B7
    have hk1 : ¬ ((1 : Int) + 3 * (ms1.length : Int) < 0) := by omega
    go_wp2_with fail
    refine (eqIntSS_any _ _ X _ _ _ G.out.lists (HU.out.below B8)).mono ?_
    rintro e W9 ⟨rfl, hb⟩
    have Lt := hid (G.out.below hb); clear G; have G := hid Lt.out; clear Lt
    have B9 := Below_chain B8 hb; have S9 := hb.size; clear hb B8
    go_wp2_with fail
    refine (markIntSS_any _ X _ _ _ G.out (by omega) (by omega) (by rw [← HP.out]; omega)).mono ?_
    rintro e W10 ⟨rfl, M, hM, hMl, hMe, hb, hsz⟩
    rw [← HP.out]
    have B10 := B9.trans (hb.mono (by omega)); have S10 := hsz; clear B9
    have Lt := hid hM; clear G; have G := hid Lt.out; clear Lt
    obtain ⟨hmk, hpm⟩ := marked_of hMl hMe
    have HMK := hid hmk
    have HPM := hid (hpm.trans HP.out.symm)
    clear hM hMl hMe hb hsz hmk hpm
    go_wp2_with fail
    refine (heldIntSS_any _ M _ _ _ G.out.lists HMK.out (by omega) (by omega) (by rw [HPM.out]; omega)).mono ?_
    rintro e W11 ⟨rfl, he⟩
    subst he
    rw [HPM.out]
    go_wp2_with fail
    refine (toMoveS_any _ ms1 _ (HR1.out.below B10) hl1).mono ?_
    rintro e W11 ⟨rfl, ho, hb⟩
    have T11 := World.rowIs.lt ho
    have Lt := hid (G.out.below hb); clear G; have G := hid Lt.out; clear Lt
    have B11 := Below_chain B10 hb; have S11 := hb.size; clear hb B10
    have Lv_t1 := ho; clear ho
    go_wp2_with fail
    refine (impl_GreedyList_any a0 _ ms1 _ (Lv_t1.reads hl1)).mono ?_
    rintro e W12 ⟨h, rfl, ho, hb⟩
    rw [← HXX.out] at ho
    have Lt := hid (G.out.below hb); clear G; have G := hid Lt.out; clear Lt
    have Lt := Lv_t1.below hb; clear Lv_t1; have Lv_t1 := Lt; clear Lt
    have B12 := Below_chain B11 hb; have S12 := hb.size; clear hb B11
    have H := hid ho; clear ho
    go_wp2_with fail
    refine (eqIntSS_any _ _ X _ _ _ H.out.lists (HU.out.below B12)).mono ?_
    rintro e W13 ⟨rfl, hb⟩
    have Lt := hid (G.out.below hb); clear G; have G := hid Lt.out; clear Lt
    have Lt := hid (H.out.below hb); clear H; have H := hid Lt.out; clear Lt
    have Lt := Lv_t1.below hb; clear Lv_t1; have Lv_t1 := Lt; clear Lt
    have B13 := Below_chain B12 hb; have S13 := hb.size; clear hb B12
    go_wp2_with fail
    refine (heldIntSS_any _ M _ _ _ G.out.lists HMK.out (by omega) (by omega) (by rw [HPM.out]; omega)).mono ?_
    rintro e W14 ⟨rfl, he⟩
    subst he
    rw [HPM.out]
    go_wp2_with fail
    go_ret
    exact ⟨rfl, Below_chain BU.out B13⟩
end Go.Proofs.Yteenmndgejeihaa
