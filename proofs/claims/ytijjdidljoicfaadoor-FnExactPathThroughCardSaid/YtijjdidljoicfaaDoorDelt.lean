/- Contracts: gcDeltas, changesAlong and both DeltasOf functions. Conditions: the slice reads as a list of at most 2^20 numbers; the table of math/bits holds what the program's text lays. -/
import Derived.Test.YtijjdidljoicfaaDoorCBit
import Derived.Test.YtijjdidljoicfaaDoorTake
namespace Go.Proofs.YtijjdidljoicfaaDoor
open Go.RowKit
set_option linter.unusedVariables false

/-- the bit that changes behind the i-th word, or -1 -/
def deltaAt (xs : List Int) (i : Nat) : Int := bitD ((xs.getD i 0).toNat ^^^ (xs.getD (i + 1) 0).toNat)
def deltasL (xs : List Int) : List Int := (List.range (xs.length - 1)).map (deltaAt xs)
def deltasB (xs : List Int) : Bool := allTo (xs.length - 1) (fun i => decide (0 ≤ deltaAt xs i))
def deltasR (xs : List Int) : List Int := if deltasB xs = true then deltasL xs else []
theorem deltasL_length (xs : List Int) : (deltasL xs).length = xs.length - 1 := by simp [deltasL]
theorem deltasL_getD {xs : List Int} {k : Nat} (h : k < xs.length - 1) : (deltasL xs).getD k 0 = deltaAt xs k := by simp [deltasL, h]
theorem deltasL_take {xs : List Int} {k : Nat} (h : k < xs.length - 1) : (deltasL xs).take (k + 1) = (deltasL xs).take k ++ [deltaAt xs k] := by
  rw [List.take_succ_eq_append_getElem (by rw [deltasL_length]; exact h)]
  simp [deltasL]
theorem deltasR_yes {xs : List Int} (h : deltasB xs = true) : deltasR xs = deltasL xs := by unfold deltasR; rw [if_pos h]
theorem deltasR_no {xs : List Int} (h : deltasB xs = false) : deltasR xs = [] := by unfold deltasR; rw [if_neg (by rw [h]; simp)]
/-- Two neighbours as natural numbers. -/
theorem small_two {xs : List Int} (h : small xs) {k : Nat} (hk : k < xs.length - 1) (h0 : k < xs.length) (h1 : k + 1 < xs.length) :
    ∃ a b : Nat, xs[k] = (a : Int) ∧ xs[k + 1] = (b : Int) ∧ a < 1024 ∧ b < 1024 ∧ deltaAt xs k = bitD (a ^^^ b) := by
  obtain ⟨a, ha, ha2⟩ := h k h0
  obtain ⟨b, hb, hb2⟩ := h (k + 1) h1
  refine ⟨a, b, by rw [← getD_at h0]; exact ha, by rw [← getD_at h1]; exact hb, ha2, hb2, ?_⟩
  unfold deltaAt
  rw [ha, hb]; rfl
theorem ret_sb8 {u : Value} {b b' : Bool} (h : b = b') : Ending.returned (.tuple #[u, .bool b]) = .returned (.tuple #[u, .bool b']) := by rw [h]
set_option maxHeartbeats 1000000 in
theorem gcDeltas_any (v : Value) (xs : List Int) (w : World) (h : Sits w v xs) (hs : small xs) (hl : xs.length ≤ 1048576) :
    Calls Tryd.prog 68 #[v] w fun e w' => ∃ u, e = .returned (.tuple #[u, .bool (deltasB xs)]) ∧ Own w' w.heap.size u (deltasR xs) ∧ Below w.heap.size w w' := by
  obtain ⟨b, off, c, rfl, hc1, hm, hb, hc⟩ := h
  obtain ⟨i0, hi, hz0, hz1, hz2⟩ := info_parts Tryd.info3
  have HS := hid hs
  have HC := hid hc
  have HL := hid (deltasL_length xs)
  clear hs hc
  go_enter Tryd.func68, Tryd.ntmps68
  go_wp2_with fail
  go_loopw [4, 5, 6] (fun v i _ wr => ∃ k : Nat, k ≤ xs.length - 1 ∧ i = .int .i64 ((k : Int) + 1) ∧ Own wr w.heap.size v ((deltasL xs).take k) ∧ allTo k (fun i => decide (0 ≤ deltaAt xs i)) = true ∧ Below w.heap.size w wr) (fun _ i _ _ => xs.length + 1 - (intOf i).toNat)
  case atStart => exact ⟨0, Nat.zero_le _, by go_num, Own.nil _ _, rfl, Below.refl _ _⟩
  case round =>
    obtain ⟨k, hk, rfl, hown, hall, hbel⟩ := hrel
    have HA := hid hall
    clear hall
    by_cases hlt : k < xs.length - 1
    · have h0 : k < xs.length := by omega
      have h1 : k + 1 < xs.length := by omega
      obtain ⟨a, b', e1, e2, ha, hb', hD⟩ := small_two HS.out hlt h0 h1
      have hcx : wr.cell? ⟨b, off + k, none⟩ = some (.int .i64 (a : Int)) := by rw [← e1]; exact (hbel.cell (by exact hb)).trans (HC.out k h0)
      have hcy : wr.cell? ⟨b, off + (k + 1), none⟩ = some (.int .i64 (b' : Int)) := by rw [← e2]; exact (hbel.cell (by exact hb)).trans (HC.out (k + 1) h1)
      have hr := bitD_range (a ^^^ b') (xor_lt ha hb')
      have q1 : IntKind.i64.wrap ((k : Int) + 1 - 1) = (k : Int) := by rw [show (k : Int) + 1 - 1 = (k : Int) by omega]; exact IntWalk.i64_in _ (by omega)
      have q2 : IntKind.i64.wrap (k : Int) = (k : Int) := IntWalk.i64_in _ (by omega)
      have q3 : (0 : Int) ≤ (k : Int) := by omega
      have q4 : (k : Int) < (xs.length : Int) := by omega
      have q5 : (0 : Int) ≤ (k : Int) + 1 := by omega
      have q6 : (k : Int) + 1 < (xs.length : Int) := by omega
      have q7 : ((k : Int) + 1).toNat = k + 1 := by omega
      have HCB : Hid (∀ w, Calls Tryd.prog 34 #[.int .i64 (a : Int), .int .i64 (b' : Int)] w fun e w' => e = .returned (.int .i64 (deltaAt xs k)) ∧ w = w') := by
        show ∀ _, _
        intro w
        rw [hD]
        exact gcBit_any a b' w ha hb'
      obtain ⟨D, hDD⟩ : ∃ D, D = deltaAt xs k := ⟨_, rfl⟩
      rw [← hD] at hr
      rw [← hDD] at hr HCB
      have HDD := hid hDD
      have HOW := hid hown
      have HBB := hid hbel
      clear e1 e2 hD hDD hown hbel
      by_cases hneg : D < 0
      · have HF : Hid (deltasB xs = false) := by
          show deltasB xs = false
          exact allTo_no hlt (by rw [← HDD.out]; simp; omega)
        have HX := hid (deltasR_no HF.out)
        go_wp2_with fail
        go_quiet ((first | (go_at_call 34; exact Calls.quiet_of_same ((HCB.out _).mono fun _ _ h => ⟨h.1, h.2.symm⟩))))
        go_wp2_with fail
        go_ret2
        exact ⟨_, ret_sb8 HF.out.symm, by rw [HX.out]; exact Own.nil _ _, below_drewN HBB.out _⟩
      · have hD0 : 0 ≤ D := by omega
        have hlk : ((deltasL xs).take k).length = k := by rw [List.length_take, HL.out]; omega
        have HLK := hid hlk
        have HI : Hid ((deltasL xs).take (k + 1) = (deltasL xs).take k ++ [D]) := by
          show _ = _
          rw [deltasL_take hlt, HDD.out]
        have HAN : Hid (allTo (k + 1) (fun i => decide (0 ≤ deltaAt xs i)) = true) := by
          show _ = _
          exact allTo_next HA.out (by rw [← HDD.out]; simp; omega)
        have hsz := HBB.out.size
        have HIRD : Hid (∀ q, (wr.drewN q).ownsRow w.heap.size 3 1 _ k (((deltasL xs).take k).map (Value.int .i64))) := hid (fun q => by
          have := (HOW.out.below (below_drewN (Below.refl _ _) q)).row
          rwa [hlk] at this)
        clear hlk
        go_wp2_with fail
        go_quiet ((first | (go_at_call 34; exact Calls.quiet_of_same ((HCB.out _).mono fun _ _ h => ⟨h.1, h.2.symm⟩))))
        go_wp2_with (at_builtin; refine wpList_append_own _ rfl _ _ 22 rfl w.heap.size 3 i0 (.int .i64 0) 1 8 Tryd.underlying22 hi hz0 hz1 hz2 rfl (by decide) _ _ _ rfl (World.ownsRow.alloc (HIRD.out _) _) ⟨wr.heap.size, 0, none⟩ 1 1 [.int .i64 D] rfl rfl (fun j u hj => new_cell1 j hj) (one_cell9 _ _) ?c3 ?c4 ?c5 ?_)
        case c3 => unfold maxLen; omega
        case c4 => omega
        case c5 => exact Nat.le_trans hsz (by simp)
        intro v' w1 hown' hgrow _
        have hown2 : Own w1 w.heap.size v' ((deltasL xs).take (k + 1)) := by
          rw [HI.out]
          refine Own.snoc ?_
          rw [HLK.out, List.map_take]
          exact hown'
        have hbel2 : Below w.heap.size w w1 := ((below_drewN HBB.out _).alloc hsz _).grown hgrow (Nat.le_trans hsz (by simp)) (fun q hq => (World.ownsRow.lt HOW.out q hq).1)
        clear hown' hgrow
        go_wp2
        go_roundw
        case rel => exact ⟨k + 1, by omega, by go_num, hown2, HAN.out, hbel2⟩
        case measure => simp [intOf]; omega
    · obtain rfl : k = xs.length - 1 := by omega
      have HF : Hid (deltasB xs = true) := by show deltasB xs = true; exact HA.out
      have HX := hid (deltasR_yes HF.out)
      rw [List.take_of_length_le (by rw [HL.out]; omega)] at hown
      have HO := hid hown
      clear hown
      go_wp2_with fail
      go_ret2
      exact ⟨_, ret_sb8 HF.out.symm, by rw [HX.out]; exact HO.out, hbel⟩
theorem rowIs_set_drewN {w : World} {p : Addr} {v : Value} {g T n : Nat} {f : Nat → Value} (q : Nat) (h : (w.setCell p v).rowIs g T n f) : ((w.drewN q).setCell p v).rowIs g T n f := by
  obtain ⟨c, hc, hs, hf⟩ := h
  exact ⟨c, hc, hs, hf⟩
end Go.Proofs.YtijjdidljoicfaaDoor
