/- The walk of the law FnExactApplyMove. Conditions: none. -/
import Derived.Test.YteenmndgejeihaaMvI4
import Derived.Test.YteenmndgejeihaaSits
import Derived.Test.YteenmndgejeihaaMoveL
namespace Go.Proofs.Yteenmndgejeihaa
open Go.RowKit
set_option linter.unusedVariables false
set_option maxRecDepth 4000

set_option maxHeartbeats 1000000 in
theorem walk_FnExactApplyMove (a0 : Option Addr) (len0 cap0 : Nat) (z0 : List Int) (k1 i1 j1 : Int) (w : World) (w0 : IsRow .i64 w a0 len0 cap0 z0) (w1 : (Lit.int .i64 k1).wf = true ∧ (Lit.int .i64 i1).wf = true ∧ (Lit.int .i64 j1).wf = true) :
    Calls Try.prog 7 #[.slice a0 len0 cap0, mvA k1 i1 j1] w fun e w' => e = .returned (.bool true) ∧ Below w.heap.size w w' := by
  have HBASE := hid ((Below.refl w.heap.size w).alloc (Nat.le_refl _) (lmObj k1 i1 j1))
  obtain ⟨hr0, hlen0⟩ := w0.reads
  have wf0 := hid w0.wf
  generalize z0.take len0 = xs0 at hr0 hlen0 wf0
  subst hlen0
  clear w0
  have HR0 := hid (hr0.below HBASE.out)
  clear hr0
  by_cases hl0 : xs0.length ≤ 1048576
  case neg =>
    go_enter Try.func7, Try.ntmps7
    go_wp2_with fail
    go_ret
    exact ⟨rfl, HBASE.out⟩
  case pos =>
    obtain ⟨mb0, mb1, mb2⟩ := lm_box w k1 i1 j1
    have MB0 := hid mb0; have MB1 := hid mb1; have MB2 := hid mb2; clear mb0 mb1 mb2
    have B0 : Below (w.alloc (lmObj k1 i1 j1)).heap.size (w.alloc (lmObj k1 i1 j1)) (w.alloc (lmObj k1 i1 j1)) := Below.refl _ _
    have SB : w.heap.size ≤ (w.alloc (lmObj k1 i1 j1)).heap.size := HBASE.out.size
    go_enter Try.func7, Try.ntmps7
    have mc0 := MB0.out; have mc1 := MB1.out; have mc2 := MB2.out
    have HRD := hid (HR0.out.below (Below.drew B0))
    have HX12 := hid hl0
    go_wp2_with fail
    go_region_held3 (fun w' => w'.cell? ⟨w.heap.size, 0, none⟩ = some (.int .i64 k1) ∧ w'.cell? ⟨w.heap.size, 1, none⟩ = some (.int .i64 i1) ∧ w'.cell? ⟨w.heap.size, 2, none⟩ = some (.int .i64 j1))
      (first | exact ⟨mc0, mc1, mc2⟩ | exact ⟨cell_below2 mc0 RA.out, cell_below2 mc1 RA.out, cell_below2 mc2 RA.out⟩ | exact ⟨cell_below2 mc0 RB.out, cell_below2 mc1 RB.out, cell_below2 mc2 RB.out⟩ | exact ⟨cell_below2 mc0 RC.out, cell_below2 mc1 RC.out, cell_below2 mc2 RC.out⟩ | go_keep | fail)
      (first
        | (go_at_call 24; refine (toIntS_any _ xs0 _ HRD.out HX12.out).mono ?_; rintro e wa0 ⟨he, ho, hb⟩; have hs1 := ho.sits; clear ho; obtain ⟨u1, hu1⟩ : ∃ u1, u1 = Value.slice (some ⟨(w.alloc (lmObj k1 i1 j1)).drew.heap.size, 0, none⟩) xs0.length xs0.length := ⟨_, rfl⟩; rw [← hu1] at he hs1; subst he; have HS1 := hid hs1; clear hs1 hu1; have RA := hid ((Below.refl _ _).drew.trans hb : Below (w.alloc (lmObj k1 i1 j1)).heap.size (w.alloc (lmObj k1 i1 j1)) wa0); clear hb)
        | (go_at_call 29; refine (toMove_any k1 i1 j1 _).mono ?_; rintro e wb0 ⟨rfl, hb⟩; have HS2 := hid (HS1.out.below hb); have RB := hid (Below_chain RA.out hb); clear hb)
        | (go_at_call 31; refine (spec_ApplyMove_any _ _ _ _ _ _ HS2.out).mono ?_; rintro e W3 ⟨u, rfl, ho, hb⟩; have RC := hid (Below_chain RB.out hb); have HOC := hid ho; have HSC := hid hb.size; clear ho hb)
        | fail)
    have hSb0 := RB.out.size; have hSc0 := HSC.out; have S3 := RC.out.size
    have B3 := Below_chain B0 RC.out; clear B0
    have Lv_u := HOC.out.lives
    clear mc0 mc1 mc2 HRD HX12 HS1 HS2 RA RB RC HOC HSC
    go_wp2_with fail
    refine (toIntS_any _ xs0 _ (HR0.out.below B3) hl0).mono ?_
    rintro e W4 ⟨rfl, ho, hb⟩
    have Lt := Lv_u.below hb; clear Lv_u; have Lv_u := Lt; clear Lt
    have B4 := Below_chain B3 hb; have S4 := hb.size; clear hb B3
    have Lv_x0 := ho.lives; clear ho
    have mc0 := cell_below2 MB0.out B4; have mc1 := cell_below2 MB1.out B4; have mc2 := cell_below2 MB2.out B4
    go_wp2_with fail
    refine (toMove_any k1 i1 j1 _).mono ?_
    rintro e W5 ⟨rfl, hb⟩
    clear mc0 mc1 mc2
    have Lt := Lv_u.below hb; clear Lv_u; have Lv_u := Lt; clear Lt
    have Lt := Lv_x0.below hb; clear Lv_x0; have Lv_x0 := Lt; clear Lt
    have B5 := Below_chain B4 hb; have S5 := hb.size; clear hb B4
    go_wp2_with fail
    refine (impl_ApplyMove_any _ _ _ _ _ _ (Lv_x0.sits) hl0).mono ?_
    rintro e W6 ⟨g, rfl, ho, hb⟩
    have Lt := Lv_u.below hb; clear Lv_u; have Lv_u := Lt; clear Lt
    have Lt := Lv_x0.below hb; clear Lv_x0; have Lv_x0 := Lt; clear Lt
    have B6 := Below_chain B5 hb; have S6 := hb.size; clear hb B5
    have Lv_g := ho.lives; clear ho
    have hn2 : ((apB xs0 k1 i1 j1) != (apB xs0 k1 i1 j1)) = false := by simp
    have hX : (apRes xs0 k1 i1 j1).length ≤ 1048576 := bound_ApplyMove xs0 k1 i1 j1
    have hd1 : decide ((apRes xs0 k1 i1 j1) = (apRes xs0 k1 i1 j1)) = true := by simp
    have hdx0 : decide (xs0 = xs0) = true := by simp
    go_wp2_with fail
    refine (eqIntS_any _ _ (apRes xs0 k1 i1 j1) (apRes xs0 k1 i1 j1) _ Lv_g.reads Lv_u.reads).mono ?_
    rintro e W7 ⟨rfl, hb⟩
    have Lt := Lv_u.below hb; clear Lv_u; have Lv_u := Lt; clear Lt
    have Lt := Lv_x0.below hb; clear Lv_x0; have Lv_x0 := Lt; clear Lt
    have Lt := Lv_g.below hb; clear Lv_g; have Lv_g := Lt; clear Lt
    have B7 := Below_chain B6 hb; have S7 := hb.size; clear hb B6
    go_wp2_with fail
    refine (toIntS_any _ xs0 _ (HR0.out.below B7) hl0).mono ?_
    rintro e W8 ⟨rfl, ho, hb⟩
    have Lt := Lv_u.below hb; clear Lv_u; have Lv_u := Lt; clear Lt
    have Lt := Lv_x0.below hb; clear Lv_x0; have Lv_x0 := Lt; clear Lt
    have Lt := Lv_g.below hb; clear Lv_g; have Lv_g := Lt; clear Lt
    have B8 := Below_chain B7 hb; have S8 := hb.size; clear hb B7
    have Lv_y0 := ho.lives; clear ho
    go_wp2_with fail
    refine (eqIntS_any _ _ xs0 xs0 _ Lv_x0.reads Lv_y0.reads).mono ?_
    rintro e W9 ⟨rfl, hb⟩
    have Lt := Lv_u.below hb; clear Lv_u; have Lv_u := Lt; clear Lt
    have Lt := Lv_x0.below hb; clear Lv_x0; have Lv_x0 := Lt; clear Lt
    have Lt := Lv_g.below hb; clear Lv_g; have Lv_g := Lt; clear Lt
    have Lt := Lv_y0.below hb; clear Lv_y0; have Lv_y0 := Lt; clear Lt
    have B9 := Below_chain B8 hb; have S9 := hb.size; clear hb B8
    clear Lv_y0
    go_wp2_with fail
    refine (markIntS_any _ xs0 _ _ _ Lv_x0.1 (by omega) (by omega) (by omega)).mono ?_
    rintro e W10 ⟨rfl, ho, hg⟩
    have Lt := Lv_u.kept Lv_x0 hg (by omega); clear Lv_u; have Lv_u := Lt; clear Lt
    have Lt := Lv_g.kept Lv_x0 hg (by omega); clear Lv_g; have Lv_g := Lt; clear Lt
    have B10 := Below.marked B9 Lv_x0 hg (by omega); have S10 := hg.size; clear hg B9
    have Lt := Lv_x0.marked ho; clear Lv_x0 ho; have Lv_x0 := Lt; clear Lt
    go_wp2_with fail
    refine (eqIntS_any _ _ (apRes xs0 k1 i1 j1) (apRes xs0 k1 i1 j1) _ Lv_g.reads Lv_u.reads).mono ?_
    rintro e W11 ⟨rfl, hb⟩
    have Lt := Lv_u.below hb; clear Lv_u; have Lv_u := Lt; clear Lt
    have Lt := Lv_x0.below hb; clear Lv_x0; have Lv_x0 := Lt; clear Lt
    have Lt := Lv_g.below hb; clear Lv_g; have Lv_g := Lt; clear Lt
    have B11 := Below_chain B10 hb; have S11 := hb.size; clear hb B10
    go_wp2_with fail
    refine (markIntS_any _ (apRes xs0 k1 i1 j1) _ _ _ Lv_g.1 (by omega) (by omega) (by omega)).mono ?_
    rintro e W12 ⟨rfl, ho, hg⟩
    have Lt := Lv_u.kept Lv_g hg (by omega); clear Lv_u; have Lv_u := Lt; clear Lt
    have Lt := Lv_x0.kept Lv_g hg (by omega); clear Lv_x0; have Lv_x0 := Lt; clear Lt
    have B12 := Below.marked B11 Lv_g hg (by omega); have S12 := hg.size; clear hg B11
    have Lt := Lv_g.marked ho; clear Lv_g ho; have Lv_g := Lt; clear Lt
    go_wp2_with fail
    refine (heldIntS_any _ (marks 1 (apRes xs0 k1 i1 j1).length) _ _ Lv_g.reads (by rw [marks_length]) (by omega) (by omega) (by rw [marks_length]; omega)).mono ?_
    rintro e W13 ⟨rfl, he⟩
    subst he
    rw [marks_length]
    have mc0 := cell_below2 MB0.out B12; have mc1 := cell_below2 MB1.out B12; have mc2 := cell_below2 MB2.out B12
    have HRD := hid (HR0.out.below (Below.drew B12))
    have HX12 := hid hl0
    go_wp2_with fail
    go_region_held3 (fun w' => w'.cell? ⟨w.heap.size, 0, none⟩ = some (.int .i64 k1) ∧ w'.cell? ⟨w.heap.size, 1, none⟩ = some (.int .i64 i1) ∧ w'.cell? ⟨w.heap.size, 2, none⟩ = some (.int .i64 j1))
      (first | exact ⟨mc0, mc1, mc2⟩ | exact ⟨cell_below2 mc0 RA.out, cell_below2 mc1 RA.out, cell_below2 mc2 RA.out⟩ | exact ⟨cell_below2 mc0 RB.out, cell_below2 mc1 RB.out, cell_below2 mc2 RB.out⟩ | exact ⟨cell_below2 mc0 RC.out, cell_below2 mc1 RC.out, cell_below2 mc2 RC.out⟩ | go_keep | fail)
      (first
        | (go_at_call 24; refine (toIntS_any _ xs0 _ HRD.out HX12.out).mono ?_; rintro e wa12 ⟨he, ho, hb⟩; have hs1 := ho.sits; clear ho; obtain ⟨u1, hu1⟩ : ∃ u1, u1 = Value.slice (some ⟨W12.drew.heap.size, 0, none⟩) xs0.length xs0.length := ⟨_, rfl⟩; rw [← hu1] at he hs1; subst he; have HS1 := hid hs1; clear hs1 hu1; have RA := hid ((Below.refl _ _).drew.trans hb : Below W12.heap.size W12 wa12); clear hb)
        | (go_at_call 29; refine (toMove_any k1 i1 j1 _).mono ?_; rintro e wb12 ⟨rfl, hb⟩; have HS2 := hid (HS1.out.below hb); have RB := hid (Below_chain RA.out hb); clear hb)
        | (go_at_call 32; refine (impl_ApplyMove_any _ _ _ _ _ _ HS2.out HX12.out).mono ?_; rintro e W15 ⟨h, rfl, ho, hb⟩; have RC := hid (Below_chain RB.out hb); have HOC := hid ho; have HSC := hid hb.size; clear ho hb)
        | fail)
    have Lt := Lv_u.below RC.out; clear Lv_u; have Lv_u := Lt; clear Lt
    have Lt := Lv_x0.below RC.out; clear Lv_x0; have Lv_x0 := Lt; clear Lt
    have Lt := Lv_g.below RC.out; clear Lv_g; have Lv_g := Lt; clear Lt
    have hSb12 := RB.out.size; have hSc12 := HSC.out; have S15 := RC.out.size
    have B15 := Below_chain B12 RC.out; clear B12
    have Lv_h := HOC.out.lives
    clear mc0 mc1 mc2 HRD HX12 HS1 HS2 RA RB RC HOC HSC
    go_wp2_with fail
    refine (eqIntS_any _ _ (apRes xs0 k1 i1 j1) (apRes xs0 k1 i1 j1) _ Lv_h.reads Lv_u.reads).mono ?_
    rintro e W16 ⟨rfl, hb⟩
    have Lt := Lv_u.below hb; clear Lv_u; have Lv_u := Lt; clear Lt
    have Lt := Lv_x0.below hb; clear Lv_x0; have Lv_x0 := Lt; clear Lt
    have Lt := Lv_g.below hb; clear Lv_g; have Lv_g := Lt; clear Lt
    have Lt := Lv_h.below hb; clear Lv_h; have Lv_h := Lt; clear Lt
    have B16 := Below_chain B15 hb; have S16 := hb.size; clear hb B15
    go_wp2_with fail
    refine (heldIntS_any _ (marks 1 (apRes xs0 k1 i1 j1).length) _ _ Lv_g.reads (by rw [marks_length]) (by omega) (by omega) (by rw [marks_length]; omega)).mono ?_
    rintro e W17 ⟨rfl, he⟩
    subst he
    rw [marks_length]
    go_wp2_with fail
    go_ret
    exact ⟨rfl, Below_chain HBASE.out B16⟩
end Go.Proofs.Yteenmndgejeihaa
