/- Contracts: areDigitsOnce, areDigitNeighbours and impl.IsMixedList. Conditions: bases; at most 1100 lists. -/
import Derived.Test.YtijjdidljoicfaaOnceM
import Derived.Test.YtijjdidljoicfaaDist
import Derived.Test.YtijjdidljoicfaaSSL
namespace Go.Proofs.Ytijjdidljoicfaa
open Go.RowKit Go.Maps
set_option linter.unusedVariables false

theorem ownsMap_below {H : Type} {P : Program} {k : TypeId} {R : Value → Option (DataW H × List MemPlace)} {w w' : World} {b n : Nat} {D : DataW H} (h : w.ownsMap P k R b n D) (hb : Below w.heap.size w w') : w'.ownsMap P k R b n D := by
  have hlt := h.lt
  obtain ⟨es, clock, hm, r⟩ := h
  exact ⟨es, clock, (hb.block b hlt).trans hm, r⟩
theorem lookup_bool {H : Type} {P : Program} {w : World} {t k e : TypeId} {b n : Nat} {D : DataW H} (h : w.ownsMap P k (plainElem P e) b n D) (K : Keyed P k) (ht : P.underlying t = some (.map k e)) (he : P.underlying e = some .bool)
    (hz : (zeroValue e).run P w = .ok (.bool false) w) {key : Value} {kl : Lit} (hkey : keyOf P k key = some kl) {c : Bool} (hc : D.atKey kl (.lit (.bool false)) = .lit (.bool c)) :
    (Instr.lookup t (.map (some b)) key false).run P w = .ok (.bool c) w := by
  obtain ⟨v, ps, hrun, hv⟩ := h.lookup K ht hz (plainElem_bool he false) hkey
  obtain ⟨c', rfl, hc'⟩ := plainElem_bool_inv he hv
  simp only [Prod.mk.injEq] at hc'
  rw [hc] at hc'
  have e1 : c = c' := by simpa using hc'.1
  rw [e1]; exact hrun
theorem Try.keyInt : Keyed Try.prog 3 := int_keyed Try.underlying3
theorem Try.zeroBool (w : World) : (zeroValue 4).run Try.prog w = .ok (.bool false) w := by kernel_rfl
set_option maxHeartbeats 1000000 in
theorem areDigitsOnce_any (v u : Value) (xs : List Int) (L : List (List Int)) (w : World) (h : Sits w v xs) (h' : SitsL w u L) (hb : basesB xs = true) (hL : L.length ≤ 1100) :
    Calls Try.prog 60 #[v, u] w fun e w' => e = .returned (.bool (allTo L.length (digL xs L) && onceB (rkAt xs L) L.length)) ∧ Below w.heap.size w w' := by
  obtain ⟨b, off, c, rfl, hc1, hm, hb0, hc⟩ := h'
  have HS := hid h
  have HC := hid hc
  have HB := hid hb
  have HALL := hid (basesB_iff.1 hb).2.1
  have HP := hid (basesB_iff.1 hb).2.2
  obtain ⟨ao, n0, c0, hv⟩ : ∃ ao n c, v = .slice ao n c := by obtain ⟨b', off', c', e, _⟩ := h; exact ⟨_, _, _, e⟩
  subst hv
  clear h hc hb
  have hmk := run_makeMap_hint (P := Try.prog) 73 3 4 Try.underlying73 (L.length : Int) w
  have HM0 := hid (World.ownsMap_made w Try.prog 3 (plainElem (H := Unit) Try.prog 4))
  have hB0 : Below w.heap.size w (w.alloc (.map #[] 0)) := (Below.refl _ _).alloc (Nat.le_refl _) _
  have hS0 : w.heap.size < (w.alloc (.map #[] 0)).heap.size := by simp
  obtain ⟨wm, hwm⟩ : ∃ wm, wm = w.alloc (.map #[] 0) := ⟨_, rfl⟩
  rw [← hwm] at hmk hB0 HM0 hS0
  have HB0 := hid hB0
  clear hwm hB0
  go_enter Try.func60, Try.ntmps60
  go_wp2_with fail
  go_loopw [7, 8, 9, 15] (fun _ _ _ i wr => ∃ k : Nat, k ≤ L.length ∧ i = .int .i64 k ∧ allTo k (digL xs L) = true ∧ onceB (rkAt xs L) k = true ∧ wr.ownsMap Try.prog 3 (plainElem (H := Unit) Try.prog 4) w.heap.size k (metM (rkAt xs L) k) ∧ Below w.heap.size w wr ∧ w.heap.size < wr.heap.size) (fun _ _ _ i _ => L.length - (intOf i).toNat)
  case atStart => exact ⟨0, Nat.zero_le _, rfl, rfl, rfl, HM0.out, HB0.out, hS0⟩
  case round =>
    obtain ⟨k, hk, rfl, hdig, honce, hmap, hbel, hsz⟩ := hrel
    have HDIG := hid hdig
    have HONCE := hid honce
    have HMAP := hid hmap
    have HBEL := hid hbel
    clear hdig honce hmap
    by_cases hlt : k < L.length
    · obtain ⟨z, hz, hsit⟩ := HC.out k hlt
      have hcx : wr.cell? ⟨b, off + k, none⟩ = some z := (hbel.cell (by exact hb0)).trans hz
      have HZ := hid (hsit.below hbel)
      have HS1 := hid (HS.out.below hbel)
      obtain ⟨l, hl⟩ : ∃ l, l = L[k] := ⟨_, rfl⟩
      have HGD := hid (show L.getD k [] = l by rw [hl]; exact getDL hlt)
      rw [← hl] at HZ
      clear hz hsit hbel hl
      have HDK := hid (show digL xs L k = areDig xs l by unfold digL; rw [HGD.out])
      by_cases hd : areDig xs l = true
      · have HRB := hid (show rankB xs l = true by rw [rankB, HB.out, hd]; rfl)
        obtain ⟨r, hr⟩ : ∃ r, r = rkAt xs L k := ⟨_, rfl⟩
        have HRR := hid (show rankRes xs l = r by rw [rankRes_yes HRB.out, hr, rkAt, HGD.out])
        have hrr := rk_range (L := L) (i := k) HALL.out (by rw [HDK.out]; exact hd)
        rw [← hr] at hrr
        have hr1 : r < 1000000 := by have := HP.out; omega
        have hr0 := hrr.1
        have HR := hid hr
        have HD := hid hd
        clear hrr hr hd
        have HKEY := hid (keyOf_int_mk (q := .i64) (a := r) Try.underlying3 (WalkArith.wf_i64 (by omega)))
        obtain ⟨mb, hmb⟩ : ∃ mb, mb = metB (rkAt xs L) k r := ⟨_, rfl⟩
        have HAT := hid (metM_at (rkAt xs L) k r)
        rw [← hmb] at HAT
        have HMB := hid hmb
        clear hmb
        cases mb with
        | true =>
          go_wp2_with (first | (go_at_call 90; refine (impl_RankOfDigits_any _ _ xs l _ HS1.out HZ.out).mono ?_; rintro e w1 ⟨rfl, hb1⟩; rw [HRB.out, HRR.out]; have HB1 := hid hb1; clear hb1; have HM1 := hid (ownsMap_below HMAP.out HB1.out); have hlk := lookup_bool HM1.out Try.keyInt Try.underlying73 Try.underlying4 (Try.zeroBool _) HKEY.out HAT.out) | fail)
          go_ret
          have hno : onceB (rkAt xs L) L.length = false := allTo_no hlt (by rw [← HR.out, ← HMB.out]; rfl)
          exact ⟨ret_bool (by rw [hno, Bool.and_false]), Below_chain HBEL.out HB1.out⟩
        | false =>
          go_wp2_with (first
            | (go_at_call 90; refine (impl_RankOfDigits_any _ _ xs l _ HS1.out HZ.out).mono ?_; rintro e w1 ⟨rfl, hb1⟩; rw [HRB.out, HRR.out]; have HB1 := hid hb1; clear hb1; have HM1 := hid (ownsMap_below HMAP.out HB1.out); have hlk := lookup_bool HM1.out Try.keyInt Try.underlying73 Try.underlying4 (Try.zeroBool _) HKEY.out HAT.out)
            | (at_mapUpdate; refine wpList_mapUpdate_own _ rfl _ _ _ 73 rfl 3 4 Try.keyInt Try.underlying73 (plainElem (H := Unit) Try.prog 4) w.heap.size k _ rfl HM1.out (by unfold maxLen; omega) _ _ _ rfl rfl HKEY.out _ [] (plainElem_bool Try.underlying4 true) ?_; intro w2 hown2 hgrow2; have HO2 := hid hown2; have HG2 := hid hgrow2; clear hown2 hgrow2)
            | fail)
          have hs1 := HB1.out.size
          have hs2 := HG2.out.size
          go_roundw
          case rel =>
            refine ⟨k + 1, by omega, by go_num, allTo_next HDIG.out (by rw [HDK.out]; exact HD.out), allTo_next HONCE.out (by rw [← HR.out, ← HMB.out]; rfl), ?_, ?_, by omega⟩
            · rw [metM_succ, ← HR.out]; exact HO2.out
            · exact (Below_chain HBEL.out HB1.out).grown HG2.out (Nat.le_trans HBEL.out.size hs1) (fun j hj => by cases hj; omega)
          case measure => simp [intOf]; omega
      · have hd : areDig xs l = false := by simpa using hd
        have HRB := hid (show rankB xs l = false by rw [rankB, HB.out, hd]; rfl)
        have HRR := hid (rankRes_no HRB.out)
        have HD := hid hd
        clear hd
        go_wp2_with (first | (go_at_call 90; refine (impl_RankOfDigits_any _ _ xs l _ HS1.out HZ.out).mono ?_; rintro e w1 ⟨rfl, hb1⟩; rw [HRB.out, HRR.out]; have HB1 := hid hb1; clear hb1) | fail)
        go_ret
        have hno : allTo L.length (digL xs L) = false := allTo_no hlt (by rw [HDK.out]; exact HD.out)
        exact ⟨ret_bool (by rw [hno, Bool.false_and]), Below_chain HBEL.out HB1.out⟩
    · obtain rfl : k = L.length := by omega
      go_wp2_with fail
      go_ret
      exact ⟨ret_bool (by rw [HDIG.out, HONCE.out]; rfl), HBEL.out⟩
end Go.Proofs.Ytijjdidljoicfaa
