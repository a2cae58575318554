/- The walk of the law FnExactNecklacesOf. Conditions: none. -/
import Derived.Test.YtjghjlhjeibfoabNk2
import Derived.Test.YtjghjlhjeibfoabLE
namespace Go.Proofs.Ytjghjlhjeibfoab
open Go.RowKit
set_option linter.unusedVariables false

set_option maxHeartbeats 1000000 in
theorem walk_FnExactNecklacesOf (a0 : Int) (a1 : Int) (w : World) (w0 : (Lit.int .i64 a0).wf = true) (w1 : (Lit.int .i64 a1).wf = true) :
    Calls Try.prog 6 #[.int .i64 a0, .int .i64 a1] w fun e w' => e = .returned (.bool true) ∧ Below w.heap.size w w' := by
  have hX := bound_NecklacesOf a0 a1
  obtain ⟨L, hL⟩ : ∃ L, L = nkRes a0 a1 := ⟨_, rfl⟩
  have HL := hid hL
  rw [← hL] at hX
  obtain ⟨p, hp⟩ : ∃ p, p = preLen L L.length := ⟨_, rfl⟩
  have HP := hid hp
  rw [← hp] at hX
  have hn2 : (nkB a0 a1 != nkB a0 a1) = false := by simp
  clear hL hp
  go_enter Try.func6, Try.ntmps6
  go_wp2_with fail
  refine (law_spec_NecklacesOf _ _ _ w0 w1).mono ?_
  rintro e W1 ⟨u, rfl, ho, hb⟩
  rw [← HL.out] at ho
  have B1 := hid hb; have U1 := hid ho; clear hb ho
  go_wp2_with fail
  refine (law_impl_NecklacesOf _ _ _ w0 w1).mono ?_
  rintro e W2 ⟨g, rfl, ho, hb⟩
  rw [← HL.out] at ho
  have S2 := hid hb.size; have B2 := hid hb; have G2 := hid ho; clear hb ho
  go_wp2_with fail
  refine (eqIntSS_R _ _ L _ G2.out.reads (U1.out.below B2.out)).mono ?_
  rintro e W3 ⟨rfl, hb⟩
  have S3 := hid (Nat.le_trans S2.out hb.size); have B3 := hid (B2.out.trans (hb.mono S2.out)); have G3 := hid (G2.out.below hb); clear hb
  go_wp2_with fail
  refine (markIntSS_E _ L _ _ _ _ G3.out (by omega) (by omega) (by rw [← HP.out]; omega)).mono ?_
  rintro e W4 ⟨rfl, M, hM, hMl, hMe, hb, hsz⟩
  rw [← HP.out]
  have S4 := hid (Nat.le_trans S3.out hsz); have B4 := hid (B3.out.trans hb); have G4 := hid hM
  obtain ⟨hmk, hpm⟩ := marked_of hMl hMe
  have HMK := hid hmk
  have HPM := hid (hpm.trans HP.out.symm)
  clear hM hMl hMe hb hsz hmk hpm
  go_wp2_with fail
  refine (heldIntSS_R _ M _ _ G4.out.reads HMK.out (by omega) (by omega) (by rw [HPM.out]; omega)).mono ?_
  rintro e W5 ⟨rfl, he⟩
  subst he
  rw [HPM.out]
  go_wp2_with fail
  refine (law_impl_NecklacesOf _ _ _ w0 w1).mono ?_
  rintro e W6 ⟨h, rfl, ho, hb⟩
  rw [← HL.out] at ho
  have S6 := hid (Nat.le_trans S4.out hb.size); have B6 := hid (B4.out.trans (hb.mono S4.out)); have G6 := hid (G4.out.below hb); have H6 := hid ho; clear hb ho
  go_wp2_with fail
  refine (eqIntSS_R _ _ L _ H6.out.reads (U1.out.below B6.out)).mono ?_
  rintro e W7 ⟨rfl, hb⟩
  have B7 := hid (B6.out.trans (hb.mono S6.out)); have G7 := hid (G6.out.below hb); clear hb
  go_wp2_with fail
  refine (heldIntSS_R _ M _ _ G7.out.reads HMK.out (by omega) (by omega) (by rw [HPM.out]; omega)).mono ?_
  rintro e W8 ⟨rfl, he⟩
  subst he
  rw [HPM.out]
  go_wp2
  go_ret
  exact ⟨rfl, Below_chain B1.out B7.out⟩
end Go.Proofs.Ytjghjlhjeibfoab
