/- Contract: areCombinations. Conditions: the slice is not nil, nor are its rows, and it reads as a list of lists. -/
import Derived.Test.YtkphbelgamfmnaaCh2
import Derived.Test.YtkphbelgamfmnaaSSL
namespace Go.Proofs.Ytkphbelgamfmnaa
open Go.RowKit
set_option linter.unusedVariables false

set_option maxHeartbeats 1000000 in
theorem areCombinations_any (n : Int) (v : Value) (L : List (List Int)) (w : World) (h : SitsL w v L) :
    Calls Try.prog 65 #[.int .i64 n, v] w fun e w' => e = .returned (.bool (chlB n L)) ∧ Below w.heap.size w w' := by
  obtain ⟨b, off, c, rfl, hc1, hm, hb0, hc⟩ := h
  have HC := hid hc
  clear hc
  cases hin : inB n 0 12 with
  | false =>
    have HIN := hid hin
    have HV := hid (show chlB n L = false by rw [chlB, hin, Bool.false_and, Bool.and_false])
    clear hin
    go_enter Try.func65, Try.ntmps65
    go_wp2_with (first | (go_at_call 49; refine (isItemCount_any _ _).mono ?_; rintro e w' ⟨rfl, rfl⟩; rw [HIN.out]) | fail)
    go_ret
    exact ⟨ret_bool HV.out.symm, Below.refl _ _⟩
  | true =>
    have HIN := hid hin
    by_cases hl : L.length ≤ 1100
    · have HV := hid (show chlB n L = allTo L.length (combAt n L) by rw [chlB, hin, decide_eq_true hl]; simp)
      clear hin
      go_enter Try.func65, Try.ntmps65
      go_wp2_with (first | (go_at_call 49; refine (isItemCount_any _ _).mono ?_; rintro e w' ⟨rfl, rfl⟩; rw [HIN.out]) | fail)
      go_loopw [17] (fun i wr => ∃ k : Nat, k ≤ L.length ∧ i = .int .i64 k ∧ allTo k (combAt n L) = true ∧ Below w.heap.size w wr) (fun i _ => L.length - (intOf i).toNat)
      case atStart => exact ⟨0, Nat.zero_le _, rfl, rfl, Below.refl _ _⟩
      case round =>
        obtain ⟨k, hk, rfl, hall, hbel⟩ := hrel
        have HA := hid hall
        have HB := hid hbel
        clear hall
        by_cases hlt : k < L.length
        · obtain ⟨z, hz, hsit⟩ := HC.out k hlt
          have hcx : wr.cell? ⟨b, off + k, none⟩ = some z := (hbel.cell (by exact hb0)).trans hz
          have HZ := hid (hsit.reads.below hbel)
          obtain ⟨l, hl2⟩ : ∃ l, l = L[k] := ⟨_, rfl⟩
          have HK := hid (show combAt n L k = combB n l by rw [combAt, getDL2 hlt, hl2])
          rw [← hl2] at HZ
          clear hz hsit hl2 hbel
          cases hcb : combB n l with
          | true =>
            have HCB := hid hcb
            clear hcb
            go_wp2_with (first | (go_at_call 77; refine (impl_IsCombination_any n _ l _ HZ.out).mono ?_; rintro e w1 ⟨rfl, hq⟩; rw [HCB.out]; have HB1 := hid (Below_chain HB.out (Drew.below hq wr.heap.size)); clear hq) | fail)
            go_roundw
            case rel => exact ⟨k + 1, by omega, by go_num, allTo_next HA.out (HK.out.trans HCB.out), HB1.out⟩
            case measure => simp [intOf]; omega
          | false =>
            have HCB := hid hcb
            clear hcb
            go_wp2_with (first | (go_at_call 77; refine (impl_IsCombination_any n _ l _ HZ.out).mono ?_; rintro e w1 ⟨rfl, hq⟩; rw [HCB.out]; have HB1 := hid (Below_chain HB.out (Drew.below hq wr.heap.size)); clear hq) | fail)
            go_ret
            exact ⟨ret_bool (HV.out.trans (allTo_no hlt (HK.out.trans HCB.out))).symm, HB1.out⟩
        · obtain rfl : k = L.length := by omega
          clear hbel
          go_wp2_with fail
          go_ret
          exact ⟨ret_bool (HV.out.trans HA.out).symm, HB.out⟩
    · have HV := hid (show chlB n L = false by rw [chlB, decide_eq_false hl, Bool.and_false, Bool.and_false])
      clear hin
      go_enter Try.func65, Try.ntmps65
      go_wp2_with (first | (go_at_call 49; refine (isItemCount_any _ _).mono ?_; rintro e w' ⟨rfl, rfl⟩; rw [HIN.out]) | fail)
      go_ret
      exact ⟨ret_bool HV.out.symm, Below.refl _ _⟩
end Go.Proofs.Ytkphbelgamfmnaa
