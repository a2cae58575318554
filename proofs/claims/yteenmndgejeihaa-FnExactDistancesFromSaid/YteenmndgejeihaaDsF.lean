/- Contracts: spec.DistancesFrom, spec.ReachCount. Conditions: the slice reads as a list of moves of 64 bits. -/
import Derived.Test.YteenmndgejeihaaDsS
import Derived.Test.YteenmndgejeihaaKept
namespace Go.Proofs.Yteenmndgejeihaa
open Go.RowKit
set_option linter.unusedVariables false
set_option maxRecDepth 4000

def dfRes (n : Int) (ms : List Mv) : List Int := if tkB n ms = true then dsL n.toNat ms else []
def countGe (xs : List Int) (x : Int) : Nat := (xs.filter (fun y => decide (x ≤ y))).length
theorem countGe_le (xs : List Int) (x : Int) : countGe xs x ≤ xs.length := List.length_filter_le _ _
theorem countGe_yes {xs : List Int} {k : Nat} {x : Int} (h : k < xs.length) (hx : x ≤ xs[k]) : countGe (xs.take (k + 1)) x = countGe (xs.take k) x + 1 := by
  unfold countGe
  rw [List.take_succ_eq_append_getElem h, List.filter_append]
  simp [hx]
theorem countGe_no {xs : List Int} {k : Nat} {x : Int} (h : k < xs.length) (hx : ¬ x ≤ xs[k]) : countGe (xs.take (k + 1)) x = countGe (xs.take k) x := by
  unfold countGe
  rw [List.take_succ_eq_append_getElem h, List.filter_append]
  simp [hx]
theorem dsL_len {n : Nat} {ms : List Mv} (hg : ∀ t, t < ms.length → mvAt n ms t = true) : (dsL n ms).length = fact n := (dsRun_inv hg 121 0 _ (DI_first n)).1
def rcV (n : Int) (ms : List Mv) : Int := countGe (dfRes n ms) 0
theorem dfRes_len (n : Int) (ms : List Mv) : (dfRes n ms).length ≤ 120 := by
  unfold dfRes
  split
  · rename_i h
    have hp := tk_parts h
    have e : ((n.toNat : Nat) : Int) = n := by omega
    rw [dsL_len (n := n.toNat) (fun t ht => by rw [e]; exact hp.2.2.2 t ht)]
    exact fact_five (by omega)
  · simp
theorem bound_DistancesFrom (n : Int) (ms : List Mv) : (dfRes n ms).length ≤ 1048576 := by
  have := dfRes_len n ms
  omega
theorem ret_nb5 {a b : Int} {c d : Bool} (h : a = b) (h' : c = d) : Ending.returned (.tuple #[.int .i64 a, .bool c]) = .returned (.tuple #[.int .i64 b, .bool d]) := by rw [h, h']
theorem spec_DistancesFrom_any (n : Int) (v : Value) (ms : List Mv) (w : World) (hm : ReadsM w v ms) (hw : wfM ms) :
    Calls Try.prog 60 #[.int .i64 n, v] w fun e w' => ∃ r, e = .returned (.tuple #[r, .bool (tkB n ms)]) ∧ Own w' w.heap.size r (dfRes n ms) ∧ Below w.heap.size w w' := by
  have HM := hid hm
  have HW := hid hw
  clear hm hw
  cases ht : tkB n ms with
  | false =>
    have HT := hid ht
    have HR := hid (show dfRes n ms = [] by rw [dfRes, if_neg (by rw [ht]; simp)])
    clear ht
    go_enter Try.func60, Try.ntmps60
    go_wp2_with (first | (go_at_call 87; refine (moTask_any n _ ms _ HM.out HW.out).mono ?_; rintro e w1 ⟨rfl, hb1⟩; rw [HT.out]; have HB1 := hid hb1; clear hb1) | fail)
    go_ret2
    exact ⟨_, rfl, by rw [HR.out]; exact Own.nil _ _, HB1.out⟩
  | true =>
    have HT := hid ht
    obtain ⟨h1, h5, h12, hg⟩ := tk_parts ht
    obtain ⟨N, rfl⟩ : ∃ N : Nat, n = (N : Int) := ⟨n.toNat, by omega⟩
    have HG := hid hg
    have HR := hid (show dfRes N ms = dsL N ms by rw [dfRes, if_pos ht]; rfl)
    clear hg ht
    go_enter Try.func60, Try.ntmps60
    go_wp2_with (first
      | (go_at_call 87; refine (moTask_any _ _ ms _ HM.out HW.out).mono ?_; rintro e w1 ⟨rfl, hb1⟩; rw [HT.out]; have HM1 := hid (HM.out.below hb1); have HB1 := hid hb1; clear hb1)
      | (go_at_call 103; refine (moDistances_any N _ ms _ HM1.out (by omega) (by omega) HG.out).mono ?_; rintro e w2 ⟨u, rfl, ho, hb2⟩; have HO := hid (ho.mono HB1.out.size); have HB2 := hid (Below_chain HB1.out hb2); clear ho hb2)
      | fail)
    go_ret2
    exact ⟨_, rfl, by rw [HR.out]; exact HO.out, HB2.out⟩
set_option maxHeartbeats 1000000 in
theorem spec_ReachCount_any (n : Int) (v : Value) (ms : List Mv) (w : World) (hm : ReadsM w v ms) (hw : wfM ms) :
    Calls Try.prog 54 #[.int .i64 n, v] w fun e w' => e = .returned (.tuple #[.int .i64 (rcV n ms), .bool (tkB n ms)]) ∧ Below w.heap.size w w' := by
  have HM := hid hm
  have HW := hid hw
  clear hm hw
  cases ht : tkB n ms with
  | false =>
    have HT := hid ht
    have HR := hid (show rcV n ms = 0 by rw [rcV, dfRes, if_neg (by rw [ht]; simp)]; rfl)
    clear ht
    go_enter Try.func54, Try.ntmps54
    go_wp2_with (first | (go_at_call 87; refine (moTask_any n _ ms _ HM.out HW.out).mono ?_; rintro e w1 ⟨rfl, hb1⟩; rw [HT.out]; have HB1 := hid hb1; clear hb1) | fail)
    go_ret2
    exact ⟨ret_nb5 HR.out.symm rfl, HB1.out⟩
  | true =>
    have HT := hid ht
    obtain ⟨h1, h5, h12, hg⟩ := tk_parts ht
    obtain ⟨N, rfl⟩ : ∃ N : Nat, n = (N : Int) := ⟨n.toNat, by omega⟩
    have HG := hid hg
    obtain ⟨D, hD⟩ : ∃ D, D = dsL N ms := ⟨_, rfl⟩
    have HD := hid hD
    have HR := hid (show rcV N ms = countGe D 0 by rw [rcV, dfRes, if_pos ht, hD]; rfl)
    have hDl : 0 < D.length ∧ D.length ≤ 120 := by rw [hD, dsL_len hg]; exact ⟨fact_pos3 N, fact_five (by omega)⟩
    clear hg ht hD
    go_enter Try.func54, Try.ntmps54
    go_wp2_with (first
      | (go_at_call 87; refine (moTask_any _ _ ms _ HM.out HW.out).mono ?_; rintro e w1 ⟨rfl, hb1⟩; rw [HT.out]; have HM1 := hid (HM.out.below hb1); have HB1 := hid hb1; clear hb1)
      | (go_at_call 103; refine (moDistances_any N _ ms _ HM1.out (by omega) (by omega) HG.out).mono ?_; rintro e w2 ⟨u, rfl, ho, hb2⟩; rw [← HD.out] at ho; obtain ⟨g2, n2, c2, rfl⟩ := Own.shape ho hDl.1; have hn2 := ho.len; subst hn2; have HS := hid ho.sits; have HB2 := hid (Below_chain HB1.out hb2); clear ho hb2)
      | fail)
    go_loopw [6, 17] (fun n i wr => ∃ k : Nat, k ≤ D.length ∧ i = .int .i64 k ∧ n = .int .i64 (countGe (D.take k) 0) ∧ Below w.heap.size w wr ∧ Below w2.heap.size w2 wr) (fun _ i _ => D.length - (intOf i).toNat)
    case atStart => exact ⟨0, Nat.zero_le _, rfl, rfl, HB2.out, Below.refl _ _⟩
    case round =>
      obtain ⟨k, hk, rfl, rfl, hbel, hbel2⟩ := hrel
      have HBE := hid hbel
      have HBE2 := hid hbel2
      by_cases hlt : k < D.length
      · obtain ⟨_, hcl⟩ := (HS.out.below hbel2).at'
        have hcx := hcl k hlt
        rw [Nat.zero_add] at hcx
        have hcl2 : countGe (D.take k) 0 ≤ k := Nat.le_trans (countGe_le _ _) (List.length_take_le _ _)
        clear hcl hbel hbel2
        by_cases hx : 0 ≤ D[k]
        · have HC := hid (countGe_yes hlt hx)
          go_wp2_with fail
          go_roundw
          case rel => exact ⟨k + 1, by omega, by go_num, by rw [HC.out]; go_num, HBE.out, HBE2.out⟩
          case measure => simp [intOf]; omega
        · have HC := hid (countGe_no hlt hx)
          go_wp2_with fail
          go_roundw
          case rel => exact ⟨k + 1, by omega, by go_num, by rw [HC.out], HBE.out, HBE2.out⟩
          case measure => simp [intOf]; omega
      · obtain rfl : k = D.length := by omega
        have HF := hid (show countGe (D.take D.length) 0 = countGe D 0 by rw [List.take_length])
        clear hbel hbel2
        go_wp2_with fail
        go_ret2
        exact ⟨ret_nb5 (by rw [HR.out, HF.out]) rfl, HBE.out⟩
end Go.Proofs.Yteenmndgejeihaa
