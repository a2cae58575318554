/- Contracts: moSteps, spec.IsMoveList, spec.MovesOf. Conditions: the slices read as lists (of moves, of lists). -/
import Derived.Test.YteenmndgejeihaaMv7
namespace Go.Proofs.Yteenmndgejeihaa
open Go.RowKit
set_option linter.unusedVariables false

theorem allTo_le {n m : Nat} {p : Nat → Bool} (h : allTo n p = true) (hm : m ≤ n) : allTo m p = true := (allTo_iff _ _).2 (fun i hi => (allTo_iff _ _).1 h i (by omega))
def stAt (L : List (List Int)) (ms : List Mv) (i : Nat) : Int := whI (L.getD i []) (L.getD (i + 1) []) ms
def stOk (L : List (List Int)) (ms : List Mv) (i : Nat) : Bool := decide (0 ≤ stAt L ms i)
def stB (L : List (List Int)) (ms : List Mv) : Bool := allTo (L.length - 1) (stOk L ms)
def stL (L : List (List Int)) (ms : List Mv) (j : Nat) : List Int := (List.range j).map (stAt L ms)
theorem stL_succ (L : List (List Int)) (ms : List Mv) (j : Nat) : stL L ms (j + 1) = stL L ms j ++ [stAt L ms j] := by
  unfold stL
  rw [List.range_succ, List.map_append]
  rfl
theorem stL_len (L : List (List Int)) (ms : List Mv) (j : Nat) : (stL L ms j).length = j := by simp [stL]
def stRes (L : List (List Int)) (ms : List Mv) : List Int := if stB L ms = true then stL L ms (L.length - 1) else []
set_option maxHeartbeats 1000000 in
set_option maxRecDepth 4000 in
theorem moSteps_any (n : Nat) (v u : Value) (L : List (List Int)) (ms : List Mv) (base : Nat) (w : World) (h : Lists w base v L) (hm : ReadsM w u ms) (hn : n ≤ 1000) (hL : L.length ≤ 100000) (hln : ∀ t, t < L.length → (L.getD t []).length = n) (hg : ∀ t, t < ms.length → mvAt n ms t = true) :
    Calls Try.prog 89 #[v, u] w fun e w' => ∃ r, e = .returned (.tuple #[r, .bool (stB L ms)]) ∧ Own w' w.heap.size r (stRes L ms) ∧ Below w.heap.size w w' := by
  have HRM := hid hm
  have HG := hid hg
  have HLN := hid hln
  obtain ⟨i0, hi, hz0, hz1, hz2⟩ := info_parts Try.info3
  obtain ⟨aou, cu, rfl, _, _, _⟩ := hm
  clear hg hln
  rcases h.form with ⟨rfl, rfl⟩ | ⟨g, cap, rfl, _, hgw, hc1, hcm, hc⟩
  · go_enter Try.func89, Try.ntmps89
    go_wp2_with fail
    refine wp_loop_rounds 1 ?_
    rw [rounds_succ]
    go_wp2_with fail
    go_ret2
    exact ⟨_, rfl, Own.nil _ _, Below.refl _ _⟩
  · have HC := hid hc
    clear hc h
    go_enter Try.func89, Try.ntmps89
    go_wp2_with fail
    go_loopw [6, 7] (fun ov i wr => ∃ j : Nat, (j + 1 ≤ L.length ∨ L.length = 0 ∧ j = 0) ∧ j ≤ 100000 ∧ i = .int .i64 ((j : Int) + 1) ∧ allTo j (stOk L ms) = true ∧ Own wr w.heap.size ov (stL L ms j) ∧ Below w.heap.size w wr) (fun _ i _ => L.length - (intOf i).toNat)
    case atStart => exact ⟨0, by omega, by omega, rfl, rfl, Own.nil _ _, Below.refl _ _⟩
    case round =>
      obtain ⟨j, hj, hj2, rfl, hall, hown, hbel⟩ := hrel
      have HA := hid hall
      have HO := hid hown
      have HB := hid hbel
      have hsz := hbel.size
      clear hall
      by_cases hlt : j + 1 < L.length
      · obtain ⟨z, hz, hzo⟩ := HC.out j (by omega)
        obtain ⟨z', hz', hzo'⟩ := HC.out (j + 1) hlt
        have hcx : wr.cell? ⟨g, j, none⟩ = some z := (hbel.cell (by exact hgw)).trans hz
        have hcy : wr.cell? ⟨g, j + 1, none⟩ = some z' := (hbel.cell (by exact hgw)).trans hz'
        have HZ := hid (hzo.reads.below hbel)
        have HZ' := hid (hzo'.reads.below hbel)
        obtain ⟨a, ha⟩ : ∃ a, a = L[j] := ⟨_, rfl⟩
        obtain ⟨b, hb⟩ : ∃ b, b = L[j + 1] := ⟨_, rfl⟩
        have hal : a.length = n := by rw [ha, ← getDM (by omega)]; exact HLN.out j (by omega)
        have HAL := hid hal
        rw [← ha] at HZ
        rw [← hb] at HZ'
        have HK := hid (show stAt L ms j = whI a b ms by rw [stAt, getDM (by omega), getDM hlt, ha, hb])
        have hrg := firstI_range (ldsAt a b ms) ms.length 0
        obtain ⟨q, hq⟩ : ∃ q, q = whI a b ms := ⟨_, rfl⟩
        have HQ := hid hq
        rw [← hq] at HK
        have HRM1 := hid (HRM.out.below hbel)
        have HGA := hid (show ∀ t, t < ms.length → mvAt a.length ms t = true by rw [hal]; exact HG.out)
        have h0k : (0 : Int) ≤ (j : Int) := by omega
        have hkl : (j : Int) < (L.length : Int) := by omega
        have h0k2 : (0 : Int) ≤ (j : Int) + 1 := by omega
        have hkl2 : (j : Int) + 1 < (L.length : Int) := by omega
        have hww : IntKind.i64.wrap ((j : Int) + 1 - 1) = (j : Int) := by rw [show (j : Int) + 1 - 1 = j by omega]; exact IntWalk.i64_in _ (by omega)
        have hwj : IntKind.i64.wrap (j : Int) = (j : Int) := IntWalk.i64_in _ (by omega)
        have htn : ((j : Int) + 1).toNat = j + 1 := by omega
        have hgr : g < wr.heap.size := Nat.lt_of_lt_of_le hgw hsz
        clear hz hz' hzo hzo' ha hb hal hq hown hbel
        by_cases hneg : q < 0
        · have HT := hid (show stOk L ms j = false by rw [stOk, HK.out, decide_eq_false (by omega)])
          have HF := hid (show stB L ms = false from allTo_no (by omega) HT.out)
          have HR := hid (show stRes L ms = [] by unfold stRes; rw [if_neg (by rw [HF.out]; simp)])
          go_wp2_with fail
          go_region_held3 (fun w' => w'.cell? ⟨g, j, none⟩ = some z ∧ w'.cell? ⟨g, j + 1, none⟩ = some z')
            (first | exact ⟨hcx, hcy⟩ | exact ⟨((show Below wr.heap.size wr w1 from HB1.out).cell (by exact hgr)).trans hcx, ((show Below wr.heap.size wr w1 from HB1.out).cell (by exact hgr)).trans hcy⟩ | go_keep | fail)
            (first
              | (go_at_call 120; refine (moWhich_any _ _ _ a b ms _ ?_ ?_ ?_ ?_ HGA.out).mono ?_; (exact HZ.out.below (Below.refl _ _).drew); (exact HZ'.out.below (Below.refl _ _).drew); (exact HRM1.out.below (Below.refl _ _).drew); (rw [HAL.out]; exact hn); rintro e w1 ⟨rfl, hb1⟩; rw [← HQ.out]; have HB1 := hid ((Below.refl _ _).drew.trans hb1 : Below wr.heap.size wr w1); clear hb1)
              | fail)
          all_goals
            go_wp2_with fail
            go_ret2
            exact ⟨_, ret_sbA HF.out.symm, by rw [HR.out]; exact Own.nil _ _, Below_chain HB.out HB1.out⟩
        · have HT := hid (show stOk L ms j = true by rw [stOk, HK.out, decide_eq_true (by omega)])
          have HNX := hid (show stL L ms (j + 1) = stL L ms j ++ [q] by rw [stL_succ, HK.out])
          obtain ⟨l, hl2⟩ : ∃ l, l = stL L ms j := ⟨_, rfl⟩
          have HLL := hid (show l.length = j by rw [hl2, stL_len])
          have hll : l.length ≤ 100000 := by rw [HLL.out]; omega
          rw [← hl2] at HO HNX
          clear hl2
          go_wp2_with fail
          go_region_held3 (fun w' => w'.cell? ⟨g, j, none⟩ = some z ∧ w'.cell? ⟨g, j + 1, none⟩ = some z')
            (first | exact ⟨hcx, hcy⟩ | exact ⟨((show Below wr.heap.size wr w1 from HB1.out).cell (by exact hgr)).trans hcx, ((show Below wr.heap.size wr w1 from HB1.out).cell (by exact hgr)).trans hcy⟩ | go_keep | fail)
            (first
              | (go_at_call 120; refine (moWhich_any _ _ _ a b ms _ ?_ ?_ ?_ ?_ HGA.out).mono ?_; (exact HZ.out.below (Below.refl _ _).drew); (exact HZ'.out.below (Below.refl _ _).drew); (exact HRM1.out.below (Below.refl _ _).drew); (rw [HAL.out]; exact hn); rintro e w1 ⟨rfl, hb1⟩; rw [← HQ.out]; have HB1 := hid ((Below.refl _ _).drew.trans hb1 : Below wr.heap.size wr w1); have HO1 := hid (HO.out.below HB1.out); have HB2 := hid (Below_chain HB.out HB1.out); clear hb1)
              | fail)
          all_goals
            have hs1 := HB2.out.size
            go_wp2_with (first
              | (at_builtin; refine wpList_append_own _ rfl _ _ 22 rfl w.heap.size 3 i0 (.int .i64 0) 1 8 Try.underlying22 hi hz0 hz1 hz2 rfl (by decide) _ _ _ rfl (World.ownsRow.alloc HO1.out.row _) ⟨w1.heap.size, 0, none⟩ 1 1 [.int .i64 q] rfl rfl (fun j y hj => new_cell1 j hj) (ints_one [q]) (by unfold maxLen; omega) (by omega) (by simp; omega) ?_; intro v2 w2 hown2 hgrow2 hn2; have HO2 := hid (Own.snoc hown2); have HB3 := hid ((HB2.out.alloc hs1 (.cells #[.int .i64 q] 3)).grown hgrow2 (by simp; omega) (fun q hq => (World.ownsRow.lt HO1.out q hq).1)); clear hown2 hgrow2 hn2)
              | fail)
            go_roundw
            case rel => exact ⟨j + 1, by omega, by omega, by go_num, allTo_next HA.out HT.out, by rw [HNX.out]; exact HO2.out, HB3.out⟩
            case measure => simp [intOf]; omega
      · have HF := hid (show stB L ms = true from allTo_le HA.out (by omega))
        have hjl : j = L.length - 1 := by omega
        have HR := hid (show stRes L ms = stL L ms j by unfold stRes; rw [if_pos HF.out, hjl])
        clear hown hbel hjl
        go_wp2_with fail
        go_ret2
        exact ⟨_, ret_sbA HF.out.symm, by rw [HR.out]; exact HO.out, HB.out⟩
end Go.Proofs.Yteenmndgejeihaa
