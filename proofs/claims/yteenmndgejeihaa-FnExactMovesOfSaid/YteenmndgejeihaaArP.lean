/- Contract: arePermutations. Conditions: the slice is not nil, nor are its rows, and it reads as a list of lists. -/
import Derived.Test.YteenmndgejeihaaBs3
import Derived.Test.YteenmndgejeihaaBs4
import Derived.Test.YteenmndgejeihaaBs1
namespace Go.Proofs.Yteenmndgejeihaa
open Go.RowKit
set_option linter.unusedVariables false
set_option maxRecDepth 4000

theorem SitsL.shape {w : World} {v : Value} {L : List (List Int)} (h : SitsL w v L) : ∃ b off c, v = .slice (some ⟨b, off, none⟩) L.length c := by
  obtain ⟨b, off, c, e, _⟩ := h
  exact ⟨b, off, c, e⟩
theorem plB_many {n : Int} {L : List (List Int)} (h : 1100 < L.length) : plB n L = false := by rw [plB, decide_eq_false (by omega), Bool.and_false]
theorem plB_few {n : Int} {L : List (List Int)} (h : ¬ 1100 < L.length) : plB n L = allTo L.length (plAt n L) := by rw [plB, decide_eq_true (by omega), Bool.and_true]
set_option maxHeartbeats 1000000 in
theorem arePermutations_any (n : Int) (v : Value) (L : List (List Int)) (w : World) (h : SitsL w v L) :
    Calls Try.prog 92 #[.int .i64 n, v] w fun e w' => e = .returned (.bool (plB n L)) ∧ Below w.heap.size w w' := by
  obtain ⟨b, off, c, rfl, hc1, hm, hb, hc⟩ := h
  have HC := hid hc
  clear hc
  by_cases hl : 1100 < L.length
  · have hl2 : (1100 : Int) < (L.length : Int) := by omega
    have HV := hid (plB_many (n := n) hl)
    clear hl
    go_enter Try.func92, Try.ntmps92
    go_wp2_with fail
    go_ret
    exact ⟨ret_bool HV.out.symm, Below.refl _ _⟩
  · have hl2 : ¬ (1100 : Int) < (L.length : Int) := by omega
    have HV := hid (plB_few (n := n) hl)
    clear hl
    go_enter Try.func92, Try.ntmps92
    go_wp2_with fail
    go_loopw [12] (fun i wr => ∃ k : Nat, k ≤ L.length ∧ i = .int .i64 k ∧ allTo k (plAt n L) = true ∧ Below w.heap.size w wr) (fun i _ => L.length - (intOf i).toNat)
    case atStart => exact ⟨0, Nat.zero_le _, rfl, rfl, Below.refl _ _⟩
    case round =>
      obtain ⟨k, hk, rfl, hall, hbel⟩ := hrel
      have HA := hid hall
      have HB := hid hbel
      clear hall
      by_cases hlt : k < L.length
      · obtain ⟨z, hz, hsit⟩ := HC.out k hlt
        obtain ⟨l, hl⟩ : ∃ l, l = L[k] := ⟨_, rfl⟩
        have HK := hid (show plAt n L k = (decide ((l.length : Int) = n) && permB l) by rw [plAt, getDM hlt, hl])
        have hcx : wr.cell? ⟨b, off + k, none⟩ = some z := (hbel.cell (by exact hb)).trans hz
        rw [← hl] at hsit
        have HZ := hid (hsit.below hbel).reads
        obtain ⟨_, _, cz, hze, _⟩ := hsit
        subst hze
        clear hz hl hbel
        by_cases hln : (l.length : Int) = n
        · have hb1 : ((l.length : Int) != n) = false := by simp [hln]
          have HLN := hid hln
          clear hln
          cases hp : permB l with
          | true =>
            have HP := hid hp
            have HT := hid (show plAt n L k = true by rw [HK.out, hp, decide_eq_true HLN.out]; rfl)
            clear hp
            go_wp2_with (first | (go_at_call 72; refine (impl_IsPermutation_any _ l _ HZ.out).mono ?_; rintro e w1 ⟨rfl, hb1⟩; rw [HP.out]; have HB1 := hid (Below_chain HB.out hb1); clear hb1) | fail)
            go_roundw
            case rel => exact ⟨k + 1, by omega, by go_num, allTo_next HA.out HT.out, HB1.out⟩
            case measure => simp [intOf]; omega
          | false =>
            have HP := hid hp
            have HT := hid (show plAt n L k = false by rw [HK.out, hp, Bool.and_false])
            have HF := hid (HV.out.trans (allTo_no hlt HT.out))
            clear hp
            go_wp2_with (first | (go_at_call 72; refine (impl_IsPermutation_any _ l _ HZ.out).mono ?_; rintro e w1 ⟨rfl, hb1⟩; rw [HP.out]; have HB1 := hid (Below_chain HB.out hb1); clear hb1) | fail)
            go_ret
            exact ⟨ret_bool HF.out.symm, HB1.out⟩
        · have hb1 : ((l.length : Int) != n) = true := by simp [hln]
          have HT := hid (show plAt n L k = false by rw [HK.out, decide_eq_false hln]; rfl)
          have HF := hid (HV.out.trans (allTo_no hlt HT.out))
          clear hln
          go_wp2_with fail
          go_ret
          exact ⟨ret_bool HF.out.symm, HB.out⟩
      · obtain rfl : k = L.length := by omega
        have HF := hid (HV.out.trans HA.out)
        clear hbel
        go_wp2_with fail
        go_ret
        exact ⟨ret_bool HF.out.symm, HB.out⟩
end Go.Proofs.Yteenmndgejeihaa
