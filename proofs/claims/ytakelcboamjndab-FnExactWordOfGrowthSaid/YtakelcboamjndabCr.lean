/- Contracts: spCrosses, spec.HasCrossing. Conditions: slices that are not nil and read as lists of at most 2^20 numbers. -/
import Derived.Test.YtakelcboamjndabHc
import Derived.BigQuiet
namespace Go.Proofs.Ytakelcboamjndab
open Go.RowKit Go.Maps
set_option linter.unusedVariables false
set_option maxRecDepth 4000

theorem hcP_yes {a : List Int} (hg : grB a = true) (h : crP a) : hcP a = true := by
  unfold hcP
  rw [decide_eq_false (fun e => (back_iff hg).1 e h)]; rfl
theorem hcP_no {a : List Int} (hg : grB a = true) (h : ¬ crP a) : hcP a = false := by
  unfold hcP
  rw [decide_eq_true ((back_iff hg).2 h)]; rfl
set_option maxHeartbeats 4000000 in
theorem spCrosses_any (v : Value) (a : List Int) (w : World) (h : Sits w v a) (hg : grB a = true) :
    Calls Try.prog 53 #[v] w fun e w' => e = .returned (.bool (hcP a)) ∧ Below w.heap.size w w' := by
  have HY := hid (hcP_yes hg)
  have HN := hid (hcP_no hg)
  obtain ⟨_, hg1, hg12⟩ := grB_iff.1 hg
  obtain ⟨b, off, c, rfl, hc1, hm, hb, hc⟩ := h
  have HC := hid hc
  have HDR := hid (fun k (hk : k ≤ a.length) => Sits_drop (w := w) (off := off) k hk hc1 hm hb hc)
  clear hc hg
  go_enter Try.func53, Try.ntmps53
  go_wp2_with fail
  go_loopw [8] (fun i wr => ∃ I : Nat, I ≤ a.length ∧ i = .int .i64 I ∧ (∀ i' j k, i' < I → ¬ crAt a i' j k) ∧ Below w.heap.size w wr) (fun i _ => a.length - (intOf i).toNat)
  case atStart => exact ⟨0, Nat.zero_le _, rfl, fun i' j k h => absurd h (by omega), Below.refl _ _⟩
  case round =>
    obtain ⟨I, hI, rfl, hno, hbel⟩ := hrel
    obtain ⟨wo, rfl⟩ : ∃ wo : World, wo = wr := ⟨_, rfl⟩
    have HB := hid hbel
    have HNO := hid hno
    clear hbel hno
    by_cases hlt : I < a.length
    · go_wp2_with fail
      go_loopw [4] (fun j wr => ∃ J : Nat, I < J ∧ J ≤ a.length ∧ j = .int .i64 J ∧ (∀ j' k, j' < J → ¬ crAt a I j' k) ∧ Below w.heap.size w wr) (fun j _ => a.length - (intOf j).toNat)
      case atStart => exact ⟨I + 1, by omega, by omega, by go_num, fun j' k h hc => by have := hc.1; omega, HB.out⟩
      case round =>
        obtain ⟨J, hIJ, hJ, rfl, hnj, hbel⟩ := hrel
        obtain ⟨wm, rfl⟩ : ∃ wm : World, wm = wr := ⟨_, rfl⟩
        have HB2 := hid hbel
        have HNJ := hid hnj
        clear hbel hnj
        by_cases hltJ : J < a.length
        · go_wp2_with fail
          go_loopw [5] (fun k wr => ∃ K : Nat, J < K ∧ K ≤ a.length ∧ k = .int .i64 K ∧ (∀ k', k' < K → ¬ crAt a I J k') ∧ Below w.heap.size w wr) (fun k _ => a.length - (intOf k).toNat)
          case atStart => exact ⟨J + 1, by omega, by omega, by go_num, fun k' h hc => by have := hc.2.1; omega, HB2.out⟩
          case round =>
            obtain ⟨K, hJK, hK, rfl, hnk, hbel⟩ := hrel
            have HB3 := hid hbel
            have HNK := hid hnk
            by_cases hltK : K < a.length
            · have hci := (hbel.cell (p := ⟨b, off + I, none⟩) (by exact hb)).trans (HC.out I (by omega))
              have hcj := (hbel.cell (p := ⟨b, off + J, none⟩) (by exact hb)).trans (HC.out J (by omega))
              have hck := (hbel.cell (p := ⟨b, off + K, none⟩) (by exact hb)).trans (HC.out K (by omega))
              obtain ⟨x, hx⟩ : ∃ x, x = a[I] := ⟨_, rfl⟩
              obtain ⟨y, hy⟩ : ∃ y, y = a[J] := ⟨_, rfl⟩
              obtain ⟨z, hz⟩ : ∃ z, z = a[K] := ⟨_, rfl⟩
              have HX := hid (show a.getD I 0 = x by rw [getD_at (by omega), hx])
              have HYY := hid (show a.getD J 0 = y by rw [getD_at (by omega), hy])
              have HZ := hid (show a.getD K 0 = z by rw [getD_at (by omega), hz])
              rw [← hx] at hci
              rw [← hy] at hcj
              rw [← hz] at hck
              have q0 : (0 : Int) ≤ (I : Int) := by omega
              have q1 : (0 : Int) ≤ (J : Int) := by omega
              have q2 : (0 : Int) ≤ (K : Int) := by omega
              have q3 : (I : Int) < (a.length : Int) := by omega
              have q4 : (J : Int) < (a.length : Int) := by omega
              have q5 : (K : Int) < (a.length : Int) := by omega
              have HNN := hid (fun (hX : ¬ crAt a I J K) => (show ∀ k', k' < K + 1 → ¬ crAt a I J k' from fun k' hk' => by
                by_cases e : k' = K
                · subst e; exact hX
                · exact HNK.out k' (by omega)))
              clear hx hy hz hbel hnk
              by_cases h1 : x = z
              · have hb1 : (x == z) = true := by simpa using h1
                by_cases h2 : y = x
                · have hb2 : (y != x) = false := by simp [h2]
                  have HNX := hid (HNN.out (fun hc => by have := hc.2.2.2.2.1; rw [HYY.out, HX.out] at this; exact this h2))
                  clear h1 h2
                  go_wp2_with fail
                  go_quiet (fail)
                  go_wp2
                  go_roundw
                  case rel => exact ⟨K + 1, by omega, by omega, by go_num, HNX.out, below_drewN HB3.out _⟩
                  case measure => simp [intOf]; omega
                · have hb2 : (y != x) = true := by simpa using h2
                  have HD := hid ((HDR.out (K + 1) (by omega)).reads)
                  have HMEM := hid (show crAt a I J K ↔ y ∈ a.drop (K + 1) from ⟨fun hc => by have := hc.2.2.2.2.2; rw [HYY.out] at this; exact this, fun hm => ⟨hIJ, hJK, hltK, by rw [HX.out, HZ.out, h1], by rw [HYY.out, HX.out]; exact h2, by rw [HYY.out]; exact hm⟩⟩)
                  have HL := hid (fun (V : Value) (W : World) (hV : Reads W V (a.drop (K + 1))) => l1Has_any V (a.drop (K + 1)) y W hV)
                  have HE0 := hid (fun (hd : a.drop (K + 1) = []) (W : World) (ao : Option Addr) (l c' : Nat) (hl : l = 0) (hc' : c' ≤ 9223372036854775807) => (show Reads W (.slice ao l c') (a.drop (K + 1)) from ⟨ao, c', by rw [hd, hl]; rfl, by rw [hd]; exact Nat.zero_le _, by unfold maxLen; omega, .inl hd⟩))
                  have u1 : IntKind.i64.wrap ((K : Int) + 1) = (K : Int) + 1 := IntWalk.i64_in _ (by omega)
                  have u2 : ((K : Int) + 1).toNat = K + 1 := by omega
                  have p1 : (0 : Int) ≤ (K : Int) + 1 := by omega
                  have p4 : (K : Int) + 1 ≤ (a.length : Int) := by omega
                  have p5 : (a.length : Int) ≤ (c : Int) := by omega
                  have p7 : K + 1 ≤ a.length := by omega
                  clear h1 h2
                  cases hh : hasB (a.drop (K + 1)) y
                  · have HNX := hid (HNN.out (fun hc => by have h1 := HMEM.out.1 hc; rw [← hasB_iff, hh] at h1; exact absurd h1 (by simp)))
                    by_cases hcap : c = K + 1
                    · have HDN := hid (show a.drop (K + 1) = [] from List.drop_eq_nil_of_le (by omega))
                      have HLE := hid (show a.length - (K + 1) = 0 by omega)
                      subst hcap
                      go_wp2_with fail
                      go_quiet (first | (go_at_call 80; (refine Calls.quiet_of_same ((HL.out _ _ ?_).mono (by rintro _ _ ⟨rfl, rfl⟩; rw [hh]; exact ⟨rfl, rfl⟩))); exact HE0.out HDN.out _ _ _ _ (by first | exact HLE.out | omega) (by omega)) | fail)
                      go_wp2
                      go_roundw
                      case rel => exact ⟨K + 1, by omega, by omega, by go_num, HNX.out, below_drewN HB3.out _⟩
                      case measure => simp [intOf]; omega
                    · have p8 : K + 1 ≤ c := by omega
                      go_wp2_with fail
                      go_quiet (first | (go_at_call 80; (refine Calls.quiet_of_same ((HL.out _ _ ?_).mono (by rintro _ _ ⟨rfl, rfl⟩; rw [hh]; exact ⟨rfl, rfl⟩))); exact (HD.out.below HB3.out).below (below_drewN (Below.refl _ _) _)) | fail)
                      go_wp2
                      go_roundw
                      case rel => exact ⟨K + 1, by omega, by omega, by go_num, HNX.out, below_drewN HB3.out _⟩
                      case measure => simp [intOf]; omega
                  · have HF := hid (HY.out ⟨I, J, K, HMEM.out.2 (hasB_iff.1 hh)⟩)
                    by_cases hcap : c = K + 1
                    · have HDN := hid (show a.drop (K + 1) = [] from List.drop_eq_nil_of_le (by omega))
                      have HLE := hid (show a.length - (K + 1) = 0 by omega)
                      subst hcap
                      go_wp2_with fail
                      go_quiet (first | (go_at_call 80; (refine Calls.quiet_of_same ((HL.out _ _ ?_).mono (by rintro _ _ ⟨rfl, rfl⟩; rw [hh]; exact ⟨rfl, rfl⟩))); exact HE0.out HDN.out _ _ _ _ (by first | exact HLE.out | omega) (by omega)) | fail)
                      go_wp2
                      go_ret
                      exact ⟨ret_bool HF.out.symm, below_drewN HB3.out _⟩
                    · have p8 : K + 1 ≤ c := by omega
                      go_wp2_with fail
                      go_quiet (first | (go_at_call 80; (refine Calls.quiet_of_same ((HL.out _ _ ?_).mono (by rintro _ _ ⟨rfl, rfl⟩; rw [hh]; exact ⟨rfl, rfl⟩))); exact (HD.out.below HB3.out).below (below_drewN (Below.refl _ _) _)) | fail)
                      go_wp2
                      go_ret
                      exact ⟨ret_bool HF.out.symm, below_drewN HB3.out _⟩
              · have hb1 : (x == z) = false := by simpa using h1
                have HNX := hid (HNN.out (fun hc => by have := hc.2.2.2.1; rw [HX.out, HZ.out] at this; exact h1 this))
                clear h1
                go_wp2_with fail
                go_quiet (fail)
                go_wp2
                go_roundw
                case rel => exact ⟨K + 1, by omega, by omega, by go_num, HNX.out, below_drewN HB3.out _⟩
                case measure => simp [intOf]; omega
            · have HNX := hid (show ∀ j' k, j' < J + 1 → ¬ crAt a I j' k from fun j' k hj hc => by
                by_cases e : j' = J
                · subst e
                  exact HNK.out k (by have := hc.2.2.1; omega) hc
                · exact HNJ.out j' k (by omega) hc)
              clear hbel hnk
              go_wp2_with fail
              go_roundw
              case rel => exact ⟨J + 1, by omega, by omega, by go_num, HNX.out, HB3.out⟩
              case measure => simp [intOf]; omega
        · have HNX := hid (show ∀ i' j k, i' < I + 1 → ¬ crAt a i' j k from fun i' j k hi hc => by
            by_cases e : i' = I
            · subst e
              exact HNJ.out j k (by have := hc.2.1; have := hc.2.2.1; omega) hc
            · exact HNO.out i' j k (by omega) hc)
          go_wp2_with fail
          go_roundw
          case rel => exact ⟨I + 1, by omega, by go_num, HNX.out, HB2.out⟩
          case measure => simp [intOf]; omega
    · have HF := hid (HN.out (by
        rintro ⟨i, j, k, hc⟩
        exact HNO.out i j k (by have := hc.1; have := hc.2.1; have := hc.2.2.1; omega) hc))
      go_wp2_with fail
      go_ret
      exact ⟨ret_bool HF.out.symm, HB.out⟩
theorem spec_HasCrossing_any (v : Value) (xs : List Int) (w : World) (h : Sits w v xs) (hl : xs.length ≤ 1048576) (_hwf : ∀ x ∈ xs, (Lit.int .i64 x).wf = true) :
    Calls Try.prog 23 #[v] w fun e w' => e = .returned (.tuple #[.bool (hcRes xs), .bool (grB xs)]) ∧ Below w.heap.size w w' := by
  have HX := hid h
  clear h
  cases hg : grB xs
  · have HF := hid (show hcRes xs = false by unfold hcRes; rw [hg]; rfl)
    go_enter Try.func23, Try.ntmps23
    go_wp2_with (first | (go_at_call 52; refine (spGrowth_any _ xs _ HX.out.reads hl).mono ?_; rintro e w1 ⟨rfl, rfl⟩; rw [hg]) | fail)
    go_ret2
    exact ⟨by rw [HF.out]; rfl, Below.refl _ _⟩
  · have HF := hid (show hcRes xs = hcP xs by unfold hcRes; rw [hg]; rfl)
    have HG := hid hg
    go_enter Try.func23, Try.ntmps23
    go_wp2_with (first
      | (go_at_call 53; (refine (spCrosses_any _ xs _ HX.out HG.out).mono ?_); (rintro e w2 ⟨rfl, hb2⟩); (have HB2 := hid hb2); (clear hb2))
      | (go_at_call 52; refine (spGrowth_any _ xs _ HX.out.reads hl).mono ?_; rintro e w1 ⟨rfl, rfl⟩; rw [hg])
      | fail)
    go_ret2
    exact ⟨by rw [HF.out]; rfl, HB2.out⟩
end Go.Proofs.Ytakelcboamjndab
