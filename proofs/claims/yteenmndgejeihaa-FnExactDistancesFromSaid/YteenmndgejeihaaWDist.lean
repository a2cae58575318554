/- The walk of the law FnExactDistancesFrom. Conditions: none. -/
import Derived.Test.YteenmndgejeihaaDsI
import Derived.Test.YteenmndgejeihaaBs1
import Derived.Test.YteenmndgejeihaaBs4
namespace Go.Proofs.Yteenmndgejeihaa
open Go.RowKit
set_option linter.unusedVariables false
set_option maxRecDepth 4000

set_option maxHeartbeats 1000000 in
theorem walk_FnExactDistancesFrom (a0 : Int) (a1 : Option Addr) (len1 cap1 : Nat) (z1 : List Mv) (w : World) (w0 : (Lit.int .i64 a0).wf = true) (w1 : ReadsM w (.slice a1 len1 cap1) z1 ∧ z1.length = len1 ∧ wfM z1) :
    Calls Try.prog 17 #[.int .i64 a0, .slice a1 len1 cap1] w fun e w' => e = .returned (.bool true) ∧ Below w.heap.size w w' := by
  have HBASE := hid (Below.refl w.heap.size w)
  obtain ⟨hr1, hlen1, hwf1⟩ := w1
  obtain ⟨ms1, hms1⟩ : ∃ q, q = z1 := ⟨_, rfl⟩
  rw [← hms1] at hr1 hlen1 hwf1
  clear hms1
  subst hlen1
  have wf1 := hid hwf1
  have HR1 := hid (hr1.below HBASE.out)
  have HRo1 := hid hr1
  clear hr1 hwf1
  have B0 : Below w.heap.size w w := Below.refl _ _
  have SB : w.heap.size ≤ w.heap.size := HBASE.out.size
  go_enter Try.func17, Try.ntmps17
  go_wp2_with fail
  refine (szMoveS_any _ ms1 1048576 _ HRo1.out (by omega) (by omega)).mono ?_
  rintro e w9 ⟨rfl, rfl⟩
  by_cases hl1 : ms1.length ≤ 1048576
  case neg =>
    rw [if_pos (by omega)]
    go_wp2_with fail
    go_ret
    exact ⟨rfl, HBASE.out⟩
  case pos =>
    rw [if_neg (by omega)]
    have hsz1 : ¬ (1048576 - (ms1.length : Int)) < 0 := by omega
    go_wp2_with fail
    refine (toMoveS_any _ ms1 _ (HR1.out.below B0) hl1).mono ?_
    rintro e W1 ⟨rfl, ho, hb⟩
    have T1 := World.rowIs.lt ho
    have B1 := Below_chain B0 hb; have S1 := hb.size; clear hb B0
    have Lv_s1 := ho; clear ho
    go_wp2_with fail
    refine (spec_DistancesFrom_any a0 _ ms1 _ (Lv_s1.reads hl1) wf1.out).mono ?_
    rintro e W2 ⟨u, rfl, ho, hb⟩
    have Lt := Lv_s1.below hb; clear Lv_s1; have Lv_s1 := Lt; clear Lt
    have B2 := Below_chain B1 hb; have S2 := hb.size; clear hb B1
    have Lv_u := ho.lives; clear ho
    clear Lv_s1
    go_wp2_with fail
    refine (toMoveS_any _ ms1 _ (HR1.out.below B2) hl1).mono ?_
    rintro e W3 ⟨rfl, ho, hb⟩
    have T3 := World.rowIs.lt ho
    have Lt := Lv_u.below hb; clear Lv_u; have Lv_u := Lt; clear Lt
    have B3 := Below_chain B2 hb; have S3 := hb.size; clear hb B2
    have Lv_x1 := ho; clear ho
    go_wp2_with fail
    refine (impl_DistancesFrom_any a0 _ ms1 _ (Lv_x1.reads hl1)).mono ?_
    rintro e W4 ⟨g, rfl, ho, hb⟩
    have Lt := Lv_u.below hb; clear Lv_u; have Lv_u := Lt; clear Lt
    have Lt := Lv_x1.below hb; clear Lv_x1; have Lv_x1 := Lt; clear Lt
    have B4 := Below_chain B3 hb; have S4 := hb.size; clear hb B3
    have Lv_g := ho.lives; clear ho
    have hn2 : ((tkB a0 ms1) != (tkB a0 ms1)) = false := by simp
    have hX : (dfRes a0 ms1).length ≤ 1048576 := bound_DistancesFrom a0 ms1
    have hd1 : decide ((dfRes a0 ms1) = (dfRes a0 ms1)) = true := by simp
    go_wp2_with fail
    refine (eqIntS_any _ _ (dfRes a0 ms1) (dfRes a0 ms1) _ Lv_g.reads Lv_u.reads).mono ?_
    rintro e W5 ⟨rfl, hb⟩
    have Lt := Lv_u.below hb; clear Lv_u; have Lv_u := Lt; clear Lt
    have Lt := Lv_x1.below hb; clear Lv_x1; have Lv_x1 := Lt; clear Lt
    have Lt := Lv_g.below hb; clear Lv_g; have Lv_g := Lt; clear Lt
    have B5 := Below_chain B4 hb; have S5 := hb.size; clear hb B4
    go_wp2_with fail
    refine (toMoveS_any _ ms1 _ (HR1.out.below B5) hl1).mono ?_
    rintro e W6 ⟨rfl, ho, hb⟩
    have T6 := World.rowIs.lt ho
    have Lt := Lv_u.below hb; clear Lv_u; have Lv_u := Lt; clear Lt
    have Lt := Lv_x1.below hb; clear Lv_x1; have Lv_x1 := Lt; clear Lt
    have Lt := Lv_g.below hb; clear Lv_g; have Lv_g := Lt; clear Lt
    have B6 := Below_chain B5 hb; have S6 := hb.size; clear hb B5
    have Lv_y1 := ho; clear ho
    go_wp2_with fail
    refine (eqMoveS_any _ _ ms1 _ (Lv_x1.reads hl1) (Lv_y1.reads hl1)).mono ?_
    rintro e W7 ⟨rfl, hb⟩
    have Lt := Lv_u.below hb; clear Lv_u; have Lv_u := Lt; clear Lt
    have Lt := Lv_x1.below hb; clear Lv_x1; have Lv_x1 := Lt; clear Lt
    have Lt := Lv_g.below hb; clear Lv_g; have Lv_g := Lt; clear Lt
    have Lt := Lv_y1.below hb; clear Lv_y1; have Lv_y1 := Lt; clear Lt
    have B7 := Below_chain B6 hb; have S7 := hb.size; clear hb B6
    clear Lv_y1
    go_wp2_with fail
    refine (markMoveS_any _ ms1 _ _ Lv_x1 hl1 (by omega) (by omega)).mono ?_
    rintro e W8 ⟨rfl, hg⟩
    clear Lv_x1
    have Lt := Lv_u.keptRow hg (by omega); clear Lv_u; have Lv_u := Lt; clear Lt
    have Lt := Lv_g.keptRow hg (by omega); clear Lv_g; have Lv_g := Lt; clear Lt
    have B8 := Below.markedRow B7 hg (by omega); have S8 := hg.size; clear hg B7
    have hk1 : ¬ ((1 : Int) + 3 * (ms1.length : Int) < 0) := by omega
    go_wp2_with fail
    refine (eqIntS_any _ _ (dfRes a0 ms1) (dfRes a0 ms1) _ Lv_g.reads Lv_u.reads).mono ?_
    rintro e W9 ⟨rfl, hb⟩
    have Lt := Lv_u.below hb; clear Lv_u; have Lv_u := Lt; clear Lt
    have Lt := Lv_g.below hb; clear Lv_g; have Lv_g := Lt; clear Lt
    have B9 := Below_chain B8 hb; have S9 := hb.size; clear hb B8
    go_wp2_with fail
    refine (markIntS_any _ (dfRes a0 ms1) _ _ _ Lv_g.1 (by omega) (by omega) (by omega)).mono ?_
    rintro e W10 ⟨rfl, ho, hg⟩
    have Lt := Lv_u.kept Lv_g hg (by omega); clear Lv_u; have Lv_u := Lt; clear Lt
    have B10 := Below.marked B9 Lv_g hg (by omega); have S10 := hg.size; clear hg B9
    have Lt := Lv_g.marked ho; clear Lv_g ho; have Lv_g := Lt; clear Lt
    go_wp2_with fail
    refine (heldIntS_any _ (marks 1 (dfRes a0 ms1).length) _ _ Lv_g.reads (by rw [marks_length]) (by omega) (by omega) (by rw [marks_length]; omega)).mono ?_
    rintro e W11 ⟨rfl, he⟩
    subst he
    rw [marks_length]
    go_wp2_with fail
    refine (toMoveS_any _ ms1 _ (HR1.out.below B10) hl1).mono ?_
    rintro e W11 ⟨rfl, ho, hb⟩
    have T11 := World.rowIs.lt ho
    have Lt := Lv_u.below hb; clear Lv_u; have Lv_u := Lt; clear Lt
    have Lt := Lv_g.below hb; clear Lv_g; have Lv_g := Lt; clear Lt
    have B11 := Below_chain B10 hb; have S11 := hb.size; clear hb B10
    have Lv_t1 := ho; clear ho
    go_wp2_with fail
    refine (impl_DistancesFrom_any a0 _ ms1 _ (Lv_t1.reads hl1)).mono ?_
    rintro e W12 ⟨h, rfl, ho, hb⟩
    have Lt := Lv_u.below hb; clear Lv_u; have Lv_u := Lt; clear Lt
    have Lt := Lv_g.below hb; clear Lv_g; have Lv_g := Lt; clear Lt
    have Lt := Lv_t1.below hb; clear Lv_t1; have Lv_t1 := Lt; clear Lt
    have B12 := Below_chain B11 hb; have S12 := hb.size; clear hb B11
    have Lv_h := ho.lives; clear ho
    go_wp2_with fail
    refine (eqIntS_any _ _ (dfRes a0 ms1) (dfRes a0 ms1) _ Lv_h.reads Lv_u.reads).mono ?_
    rintro e W13 ⟨rfl, hb⟩
    have Lt := Lv_u.below hb; clear Lv_u; have Lv_u := Lt; clear Lt
    have Lt := Lv_g.below hb; clear Lv_g; have Lv_g := Lt; clear Lt
    have Lt := Lv_t1.below hb; clear Lv_t1; have Lv_t1 := Lt; clear Lt
    have Lt := Lv_h.below hb; clear Lv_h; have Lv_h := Lt; clear Lt
    have B13 := Below_chain B12 hb; have S13 := hb.size; clear hb B12
    go_wp2_with fail
    refine (heldIntS_any _ (marks 1 (dfRes a0 ms1).length) _ _ Lv_g.reads (by rw [marks_length]) (by omega) (by omega) (by rw [marks_length]; omega)).mono ?_
    rintro e W14 ⟨rfl, he⟩
    subst he
    rw [marks_length]
    go_wp2_with fail
    go_ret
    exact ⟨rfl, Below_chain HBASE.out B13⟩
end Go.Proofs.Yteenmndgejeihaa
