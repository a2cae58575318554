/- The walk of the law FnExactLyndonFactors. Conditions: none. -/
import Derived.Test.YtjghjlhjeibfoaaLy9
import Derived.Test.YtjghjlhjeibfoaaLE
import Derived.Test.YtjghjlhjeibfoaaBs1
namespace Go.Proofs.Ytjghjlhjeibfoaa
open Go.RowKit
set_option linter.unusedVariables false

set_option maxHeartbeats 1000000 in
theorem walk_FnExactLyndonFactors (a0 : Option Addr) (len0 cap0 : Nat) (z0 : List Int) (w : World) (w0 : IsRow .i64 w a0 len0 cap0 z0) :
    Calls Try.prog 10 #[.slice a0 len0 cap0] w fun e w' => e = .returned (.bool true) ∧ Below w.heap.size w w' := by
  obtain ⟨hr0, hlen0⟩ := w0.reads
  have wf0 := hid w0.wf
  generalize z0.take len0 = xs0 at hr0 hlen0 wf0
  subst hlen0
  clear w0
  have HR0 := hid hr0
  clear hr0
  by_cases hl0 : xs0.length ≤ 1048576
  case neg =>
    go_enter Try.func10, Try.ntmps10
    go_wp2
    go_ret
    exact ⟨rfl, Below.refl _ _⟩
  case pos =>
    have hX := bound_LyndonFactors xs0
    obtain ⟨L, hL⟩ : ∃ L, L = lfRes xs0 := ⟨_, rfl⟩
    have HL := hid hL
    rw [← hL] at hX
    obtain ⟨p, hp⟩ : ∃ p, p = preLen L L.length := ⟨_, rfl⟩
    have HP := hid hp
    rw [← hp] at hX
    have hn2 : (lyW xs0 != lyW xs0) = false := by simp
    have hdx0 : decide (xs0 = xs0) = true := by simp
    clear hL hp
    go_enter Try.func10, Try.ntmps10
    go_wp2_with fail
    refine (toIntS_any _ xs0 _ HR0.out hl0).mono ?_
    rintro e W1 ⟨rfl, ho, hb⟩
    have B1 := hid hb; have SS := hid ho.lives; clear ho hb
    go_wp2_with fail
    refine (law_spec_LyndonFactors _ xs0 _ SS.out.sits hl0 wf0.out).mono ?_
    rintro e W2 ⟨u, rfl, ho, hb⟩
    rw [← HL.out] at ho
    have B2 := hid (Below_chain B1.out hb); have U2 := hid ho; clear ho hb
    go_wp2_with fail
    refine (toIntS_any _ xs0 _ (HR0.out.below B2.out) hl0).mono ?_
    rintro e W3 ⟨rfl, ho, hb⟩
    have B3 := hid (Below_chain B2.out hb); have C3 := hid hb; have X3 := hid ho.lives; have S3 := hid hb.size; clear ho hb
    go_wp2_with fail
    refine (law_impl_LyndonFactors _ xs0 _ X3.out.sits hl0 wf0.out).mono ?_
    rintro e W4 ⟨g, rfl, ho, hb⟩
    rw [← HL.out] at ho
    have B4 := hid (Below_chain B3.out hb); have C4 := hid (Below_chain C3.out hb); have X4 := hid (X3.out.below hb); have G4 := hid ho; have S4 := hid hb.size; clear ho hb
    go_wp2_with fail
    refine (eqIntSS_R _ _ L _ G4.out.reads (U2.out.below C4.out)).mono ?_
    rintro e W5 ⟨rfl, hb⟩
    have B5 := hid (Below_chain B4.out hb); have C5 := hid (Below_chain C4.out hb); have X5 := hid (X4.out.below hb); have G5 := hid (G4.out.below hb); have S5 := hid (Nat.le_trans S4.out hb.size); clear hb
    go_wp2_with fail
    refine (toIntS_any _ xs0 _ (HR0.out.below B5.out) hl0).mono ?_
    rintro e W6 ⟨rfl, ho, hb⟩
    have B6 := hid (Below_chain B5.out hb); have C6 := hid (Below_chain C5.out hb); have X6 := hid (X5.out.below hb); have G6 := hid (G5.out.below hb); have S6 := hid (Nat.le_trans S5.out hb.size); have Y6 := hid ho.lives; clear ho hb
    go_wp2_with fail
    refine (eqIntS_any _ _ xs0 xs0 _ X6.out.reads Y6.out.reads).mono ?_
    rintro e W7 ⟨rfl, hb⟩
    have B7 := hid (Below_chain B6.out hb); have C7 := hid (Below_chain C6.out hb); have X7 := hid (X6.out.below hb); have G7 := hid (G6.out.below hb); have S7 := hid (Nat.le_trans S6.out hb.size); clear hb
    go_wp2_with fail
    refine (markIntS_any _ xs0 _ _ _ X7.out.1 (by omega) (by omega) (by omega)).mono ?_
    rintro e W8 ⟨rfl, ho, hg⟩
    have hs8 := S7.out
    have G8 := hid (G7.out.kept hg (fun k hk => .inl (X7.out.2 k hk)))
    have B8 := hid (B7.out.grown hg B7.out.size (fun k hk => Nat.le_trans B2.out.size (X7.out.low k hk)))
    have C8 := hid (C7.out.grown hg C7.out.size (fun k hk => X7.out.low k hk))
    have S8 := hid (Nat.le_trans S7.out hg.size)
    clear ho hg hs8
    go_wp2_with fail
    refine (eqIntSS_R _ _ L _ G8.out.reads (U2.out.below C8.out)).mono ?_
    rintro e W9 ⟨rfl, hb⟩
    have B9 := hid (Below_chain B8.out hb); have C9 := hid (Below_chain C8.out hb); have G9 := hid (G8.out.below hb); have S9 := hid (Nat.le_trans S8.out hb.size); clear hb
    go_wp2_with fail
    refine (markIntSS_E _ L _ _ _ _ G9.out (by omega) (by omega) (by rw [← HP.out]; omega)).mono ?_
    rintro e W10 ⟨rfl, M, hM, hMl, hMe, hb, hsz⟩
    rw [← HP.out]
    have B10 := hid (B9.out.trans (hb.mono B3.out.size))
    have C10 := hid (C9.out.trans (hb.mono S3.out))
    have S10 := hid (Nat.le_trans S9.out hsz)
    have G10 := hid hM
    obtain ⟨hmk, hpm⟩ := marked_of hMl hMe
    have HMK := hid hmk
    have HPM := hid (hpm.trans HP.out.symm)
    clear hM hMl hMe hb hsz hmk hpm
    go_wp2_with fail
    refine (heldIntSS_R _ M _ _ G10.out.reads HMK.out (by omega) (by omega) (by rw [HPM.out]; omega)).mono ?_
    rintro e W11 ⟨rfl, he⟩
    subst he
    rw [HPM.out]
    go_wp2_with fail
    refine (toIntS_any _ xs0 _ (HR0.out.below B10.out) hl0).mono ?_
    rintro e W12 ⟨rfl, ho, hb⟩
    have B12 := hid (Below_chain B10.out hb); have C12 := hid (Below_chain C10.out hb); have G12 := hid (G10.out.below hb); have T12 := hid ho.lives; clear ho hb
    go_wp2_with fail
    refine (law_impl_LyndonFactors _ xs0 _ T12.out.sits hl0 wf0.out).mono ?_
    rintro e W13 ⟨h, rfl, ho, hb⟩
    rw [← HL.out] at ho
    have B13 := hid (Below_chain B12.out hb); have C13 := hid (Below_chain C12.out hb); have G13 := hid (G12.out.below hb); have H13 := hid ho; clear ho hb
    go_wp2_with fail
    refine (eqIntSS_R _ _ L _ H13.out.reads (U2.out.below C13.out)).mono ?_
    rintro e W14 ⟨rfl, hb⟩
    have B14 := hid (Below_chain B13.out hb); have G14 := hid (G13.out.below hb); clear hb
    go_wp2_with fail
    refine (heldIntSS_R _ M _ _ G14.out.reads HMK.out (by omega) (by omega) (by rw [HPM.out]; omega)).mono ?_
    rintro e W15 ⟨rfl, he⟩
    subst he
    rw [HPM.out]
    go_wp2
    go_ret
    exact ⟨rfl, B14.out⟩
end Go.Proofs.Ytjghjlhjeibfoaa
