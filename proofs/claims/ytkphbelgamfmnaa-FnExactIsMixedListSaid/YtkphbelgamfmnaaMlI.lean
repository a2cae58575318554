/- Contracts: areDigitNeighbours and impl.IsMixedList. Conditions: the slices read as lists and are not nil. -/
import Derived.Test.YtkphbelgamfmnaaOnce
namespace Go.Proofs.Ytkphbelgamfmnaa
open Go.RowKit Go.Maps
set_option linter.unusedVariables false

set_option maxHeartbeats 1000000 in
theorem areDigitNeighbours_any (u : Value) (xs : List Int) (L : List (List Int)) (w : World) (h' : SitsL w u L) (hb : basesB xs = true) (hd : allTo L.length (digL xs L) = true) (hL : L.length ≤ 1100) :
    Calls Try.prog 37 #[u] w fun e w' => e = .returned (.bool (allTo L.length (nbL L))) ∧ Below w.heap.size w w' := by
  obtain ⟨b, off, c, rfl, hc1, hm, hb0, hc⟩ := h'
  have HC := hid hc
  have HALL := hid (basesB_iff.1 hb).2.1
  have hx12 := (basesB_iff.1 hb).1
  have HD := hid ((allTo_iff _ _).1 hd)
  clear hc hb hd
  go_enter Try.func37, Try.ntmps37
  go_wp2_with fail
  go_loopw [3, 4, 5] (fun i _ _ wr => ∃ j : Nat, (j + 1 ≤ L.length ∨ L.length = 0) ∧ j ≤ 1100 ∧ i = .int .i64 ((j : Int) + 1) ∧ allTo (j + 1) (nbL L) = true ∧ ∃ q, wr = w.drewN q) (fun i _ _ _ => L.length - (intOf i).toNat)
  case atStart => exact ⟨0, by omega, by omega, rfl, rfl, 0, rfl⟩
  case round =>
    obtain ⟨j, hj, hj2, rfl, hnb, hq⟩ := hrel
    have HNB := hid hnb
    have HQ := hid hq
    clear hnb
    by_cases hlt : j + 1 < L.length
    · obtain ⟨z, hz, hsit⟩ := HC.out j (by omega)
      obtain ⟨z', hz', hsit'⟩ := HC.out (j + 1) hlt
      have hcx : wr.drew.cell? ⟨b, off + j, none⟩ = some z := ((Drew.below hq w.heap.size).cell (by exact hb0)).trans hz
      have hcy : wr.drew.cell? ⟨b, off + (j + 1), none⟩ = some z' := ((Drew.below hq w.heap.size).cell (by exact hb0)).trans hz'
      have hb2 : b < wr.heap.size := Nat.lt_of_lt_of_le hb0 (Drew.below hq w.heap.size).size
      have HZ := hid (hsit.below (Drew.below hq w.heap.size))
      have HZ' := hid (hsit'.below (Drew.below hq w.heap.size))
      obtain ⟨l, hl⟩ : ∃ l, l = L[j] := ⟨_, rfl⟩
      obtain ⟨l', hl'⟩ : ∃ l, l = L[j + 1] := ⟨_, rfl⟩
      have hg1 : L.getD j [] = l := by rw [hl]; exact getDL (by omega)
      have hg2 : L.getD (j + 1) [] = l' := by rw [hl']; exact getDL hlt
      rw [← hl] at HZ
      rw [← hl'] at HZ'
      have d1 := HD.out j (by omega)
      have d2 := HD.out (j + 1) hlt
      unfold digL at d1 d2
      rw [hg1] at d1
      rw [hg2] at d2
      have r1 := dig_range HALL.out d1
      have r2 := dig_range HALL.out d2
      have HR1 := hid r1.2
      have HR2 := hid r2.2
      have HLN := hid (show l'.length = l.length by rw [r1.1, r2.1])
      have HL12 := hid (show l.length ≤ 12 by rw [r1.1]; exact hx12)
      have HNK := hid (show nbL L (j + 1) = stepB l l' by
        unfold nbL
        rw [hg2, show j + 1 - 1 = j from rfl, hg1]
        rfl)
      have h0k : (0 : Int) ≤ (j : Int) := by omega
      have hkl : (j : Int) < (L.length : Int) := by omega
      have h0k2 : (0 : Int) ≤ (j : Int) + 1 := by omega
      have hkl2 : (j : Int) + 1 < (L.length : Int) := by omega
      have hww : IntKind.i64.wrap ((j : Int) + 1 - 1) = (j : Int) := by rw [show (j : Int) + 1 - 1 = j by omega]; exact IntWalk.i64_in _ (by omega)
      have hwj : IntKind.i64.wrap (j : Int) = (j : Int) := IntWalk.i64_in _ (by omega)
      have htn : ((j : Int) + 1).toNat = j + 1 := by omega
      have HIH := hid (Drew.next HQ.out 1)
      clear hz hz' hsit hsit' hl hl' hg1 hg2 d1 d2 r1 r2 hq
      cases hs : stepB l l' with
      | true =>
        have HS := hid hs
        clear hs
        go_wp2_with fail
        go_region_held3 (fun w' => w'.cell? ⟨b, off + j, none⟩ = some z ∧ w'.cell? ⟨b, off + (j + 1), none⟩ = some z')
          (first | exact ⟨hcx, hcy⟩ | exact ⟨((Drew.below HQ1.out wr.heap.size).cell (by exact hb2)).trans hcx, ((Drew.below HQ1.out wr.heap.size).cell (by exact hb2)).trans hcy⟩ | go_keep | fail)
          (first
            | (go_at_call 56; refine (changedDigit_all _ _ l l' _ ?_ ?_ HLN.out HL12.out HR1.out HR2.out).mono ?_; (exact HZ.out.below (Below.refl _ _).drew); (exact HZ'.out.below (Below.refl _ _).drew); rintro e w1 ⟨⟨r, rfl⟩, hq1⟩; have HQ1 := hid hq1; clear hq1; rw [HS.out])
            | fail)
        all_goals
          go_wp2_with fail
          go_roundw
          case rel => exact ⟨j + 1, by omega, by omega, by go_num, allTo_next HNB.out (by rw [HNK.out]; exact HS.out), by obtain ⟨q1, e1⟩ := HIH.out; obtain ⟨q2, e2⟩ := HQ1.out; exact ⟨q1 + q2, by rw [e2]; first | (rw [← World.drewN_drewN, ← e1]; rfl) | (rw [← World.drewN_drewN, ← e1])⟩⟩
          case measure => simp [intOf]; omega
      | false =>
        have HS := hid hs
        clear hs
        go_wp2_with fail
        go_region_held3 (fun w' => w'.cell? ⟨b, off + j, none⟩ = some z ∧ w'.cell? ⟨b, off + (j + 1), none⟩ = some z')
          (first | exact ⟨hcx, hcy⟩ | exact ⟨((Drew.below HQ1.out wr.heap.size).cell (by exact hb2)).trans hcx, ((Drew.below HQ1.out wr.heap.size).cell (by exact hb2)).trans hcy⟩ | go_keep | fail)
          (first
            | (go_at_call 56; refine (changedDigit_all _ _ l l' _ ?_ ?_ HLN.out HL12.out HR1.out HR2.out).mono ?_; (exact HZ.out.below (Below.refl _ _).drew); (exact HZ'.out.below (Below.refl _ _).drew); rintro e w1 ⟨⟨r, rfl⟩, hq1⟩; have HQ1 := hid hq1; clear hq1; rw [HS.out])
            | fail)
        all_goals
          go_wp2_with fail
          go_ret
          exact ⟨ret_bool (allTo_no hlt (by rw [HNK.out]; exact HS.out)).symm, by obtain ⟨q1, e1⟩ := HQ.out; obtain ⟨q2, e2⟩ := HQ1.out; rw [e2, e1]; first | exact below_drewN (below_drewN (below_drewN (Below.refl _ _) _) _) _ | exact below_drewN (below_drewN (Below.refl _ _) _) _⟩
    · have HF := hid (show allTo L.length (nbL L) = true from allTo_mono HNB.out (by omega))
      go_wp2_with fail
      go_ret
      exact ⟨ret_bool HF.out.symm, Drew.below HQ.out _⟩
theorem mlOk_no1 {xs : List Int} {L : List (List Int)} (h : basesB xs = false) : mlOk xs L = false := by rw [mlOk, h]; rfl
theorem mlOk_no2 {xs : List Int} {L : List (List Int)} (h : ¬ L.length ≤ 1100) : mlOk xs L = false := by rw [mlOk, decide_eq_false h, Bool.and_false]
theorem mlOk_yes {xs : List Int} {L : List (List Int)} (h : basesB xs = true) (h2 : L.length ≤ 1100) : mlOk xs L = true := by rw [mlOk, h, decide_eq_true h2]; rfl
theorem mlV_no {xs : List Int} {L : List (List Int)} (h : mlOk xs L = false) : mlV xs L = false := by rw [mlV, h]; rfl
theorem mlV_len {xs : List Int} {L : List (List Int)} (h : ¬ (L.length : Int) = prodTo xs xs.length) : mlV xs L = false := by rw [mlV, decide_eq_false h, Bool.false_and, Bool.and_false]
theorem mlV_is {xs : List Int} {L : List (List Int)} (h : mlOk xs L = true) (h2 : (L.length : Int) = prodTo xs xs.length) : mlV xs L = ((allTo L.length (digL xs L) && onceB (rkAt xs L) L.length) && allTo L.length (nbL L)) := by
  rw [mlV, h, decide_eq_true h2, Bool.and_assoc]; rfl
theorem ret_bb {a b c d : Bool} (h : a = c) (h2 : b = d) : Ending.returned (.tuple #[.bool a, .bool b]) = Ending.returned (.tuple #[.bool c, .bool d]) := by rw [h, h2]
end Go.Proofs.Ytkphbelgamfmnaa
