/- Contract: spec.NextPermutation. Conditions: the slice reads as a list of at most 2^20 numbers. -/
import Derived.Test.YteejdagnlepegabNxpM2
namespace Go.Proofs.Yteejdagnlepegab
open Go.RowKit
set_option linter.unusedVariables false

theorem spec_NextPermutation_any (v : Value) (xs : List Int) (w : World) (h : Sits w v xs) (hl : xs.length ≤ 1048576) (_hwf : ∀ n ∈ xs, (Lit.int .i64 n).wf = true) :
    Calls Try.prog 15 #[v] w fun e w' => ∃ u, e = .returned (.tuple #[u, .bool (npB xs)]) ∧ Own w' w.heap.size u (npRes xs) ∧ Below w.heap.size w w' := by
  have HS := hid h
  obtain ⟨b, off, c, rfl, hc1, hm, hb, hc⟩ := h
  have HWF := hid _hwf
  clear hc _hwf
  by_cases hp : permB xs = true
  · have HSP := hid (np_spec hp)
    have HP := hid (rankPRes_yes hp)
    have hl12 := permB_len hp
    have hr := rankR_lt xs
    have hfl := fact_le xs.length (by omega)
    have hw1 : (Lit.int .i64 (xs.length : Int)).wf = true := WalkArith.wf_i64 (by omega)
    have hw2 : (Lit.int .i64 ((rankR xs : Int) + 1)).wf = true := WalkArith.wf_i64 (by omega)
    have HW1 := hid hw1
    have HW2 := hid hw2
    obtain ⟨r, hrr⟩ : ∃ r, r = rankR xs := ⟨_, rfl⟩
    rw [← hrr] at HSP HP hr HW2
    clear hrr hw1 hw2
    go_enter Try.func15, Try.ntmps15
    go_wp2_with (first
      | (go_at_call 41; refine (spec_PermutationRank_any _ xs _ HS.out hl HWF.out).mono ?_; rintro e w1 ⟨rfl, hb1⟩; rw [HP.out]; have HB1 := hid hb1; clear hb1)
      | (go_at_call 42; refine (spec_PermutationAt_any _ _ _ HW1.out HW2.out).mono ?_; rintro e w2 ⟨u, rfl, ho, hb2⟩; have HO := hid ho; have HB2 := hid (Below_chain HB1.out hb2); clear ho hb2)
      | fail)
    go_ret2
    exact ⟨_, ret_sb8 HSP.out.1.symm, by rw [HSP.out.2]; exact HO.out.mono HB1.out.size, HB2.out⟩
  · have hp : permB xs = false := by simpa using hp
    have HF : Hid (npB xs = false) := by show npB xs = false; rw [npB, hp]; rfl
    have HX := hid (npRes_no HF.out)
    go_enter Try.func15, Try.ntmps15
    go_wp2_with (first
      | (go_at_call 41; refine (spec_PermutationRank_any _ xs _ HS.out hl HWF.out).mono ?_; rintro e w1 ⟨rfl, hb1⟩; have HB1 := hid hb1; clear hb1)
      | fail)
    go_ret2
    exact ⟨_, ret_sb8 HF.out.symm, by rw [HX.out]; exact Own.nil _ _, HB1.out⟩
end Go.Proofs.Yteejdagnlepegab
