/- Contracts: both IsBalancedWord, CountBalanced, RankBalanced, BalancedWith. Conditions: slices that are not nil and read as lists of at most 2^20 numbers; ints in their range. -/
import Derived.Test.YtakelcboamjndabBal1
import Derived.Test.YtakelcboamjndabClS
import Derived.Test.YtakelcboamjndabHasB
import Derived.Test.YtakelcboamjndabCntB
import Derived.Test.YtakelcboamjndabRkB
import Derived.Test.YtakelcboamjndabPkB
import Derived.Test.YtakelcboamjndabGr2
namespace Go.Proofs.Ytakelcboamjndab
open Go.RowKit Go.Maps
set_option linter.unusedVariables false
set_option maxRecDepth 4000

theorem half_len (n : Nat) (h : n ≤ 1048576) : wrap64 ((n : Int) / 2) = ((n / 2 : Nat) : Int) := by
  rw [← IntWalk.i64_left, IntWalk.i64_in _ (by omega)]; omega
theorem impl_IsBalancedWord_any (v : Value) (xs : List Int) (w : World) (h : Reads w v xs) (hl : xs.length ≤ 1048576) :
    Calls Try.prog 48 #[v] w fun e w' => e = .returned (.bool (blB xs)) ∧ Below w.heap.size w w' := by
  have H := hid h
  obtain ⟨ao, c, rfl, hc1, hm, _⟩ := h.view
  clear h
  have hh := half_len xs.length hl
  have HH := hid (has_balanced (xs := xs))
  have HFR := hid (bl_far (xs := xs))
  obtain ⟨p, hp⟩ : ∃ p, p = xs.length / 2 := ⟨_, rfl⟩
  rw [← hp] at hh HH HFR
  have hh2 : (xs.length : Int) / 2 = (p : Int) := by omega
  clear hp
  cases hn : inB (p : Int) 0 12
  · have HF := hid (show blB xs = false from HFR.out (by
      intro hc
      have : inB (p : Int) 0 12 = true := inB_iff.2 ⟨by omega, by omega⟩
      rw [this] at hn; exact absurd hn (by simp)))
    go_enter Try.func48, Try.ntmps48
    go_wp2_with (first | (go_at_call 50; refine (isPairCount_any _ _).mono ?_; rintro e w' ⟨rfl, rfl⟩; (try rw [hh2]); rw [hn]) | fail)
    go_ret
    exact ⟨ret_bool HF.out.symm, Below.refl _ _⟩
  · have hb := inB_iff.1 hn
    have HF := hid (HH.out (by omega))
    have HG := hid (fun W => balancedWordsOf_any p (2 * p) W rfl (by omega))
    have HDD := hid (show blD (2 * p) 0 by unfold blD; omega)
    obtain ⟨l, hl2⟩ : ∃ l, l = 2 * p := ⟨_, rfl⟩
    rw [← hl2] at HF HG HDD
    clear hb hl2 HH HFR
    go_enter Try.func48, Try.ntmps48
    go_wp2_with (first
      | (go_at_call 50; refine (isPairCount_any _ _).mono ?_; rintro e w' ⟨rfl, rfl⟩; (try rw [hh2]); rw [hn])
      | (go_at_call 78; refine (HG.out _).mono ?_; rintro e w1 ⟨rfl, _, _, hb⟩; have HB1 := hid hb; have H1 := hid (H.out.below hb); clear hb)
      | (go_at_call 63; refine (hasB_any blShC _ l 0 _ xs _ HDD.out H1.out hl).mono ?_; rintro e w2 ⟨rfl, hb⟩; have HB2 := hid (Below_chain HB1.out hb); clear hb)
      | fail)
    go_ret
    exact ⟨ret_bool HF.out, HB2.out⟩
theorem impl_IsBalancedWord_c (v : Value) (xs : List Int) (w : World) (h : Sits w v xs) (hl : xs.length ≤ 1048576) (_hwf : ∀ x ∈ xs, (Lit.int .i64 x).wf = true) :
    Calls Try.prog 48 #[v] w fun e w' => e = .returned (.bool (blB xs)) ∧ Below w.heap.size w w' := impl_IsBalancedWord_any v xs w h.reads hl
end Go.Proofs.Ytakelcboamjndab
