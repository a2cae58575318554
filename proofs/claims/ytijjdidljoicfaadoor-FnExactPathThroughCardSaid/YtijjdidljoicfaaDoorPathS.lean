/- Contract: spec.PathThrough. Conditions: the slice reads as a list of at most 2^20 numbers. -/
import Derived.Test.YtijjdidljoicfaaDoorPathJ
import Derived.Test.YtijjdidljoicfaaDoorGcP
namespace Go.Proofs.YtijjdidljoicfaaDoor
open Go.RowKit
set_option linter.unusedVariables false

def absZ (d : Int) : Int := if 0 ≤ d then d else -d
theorem l1MostZ (a b : Int) (w : World) : Calls Tryd.prog 32 #[.int .i64 a, .int .i64 b] w fun e w' => e = .returned (.int .i64 (if b < a then a else b)) ∧ w = w' := by
  rcases Int.lt_trichotomy a b with h1 | h1 | h1
  · have h2 : ¬ b < a := by omega
    have h3 : ¬ b ≤ a := by omega
    have h4 : a ≤ b := by omega
    go_enter Tryd.func32, Tryd.ntmps32
    go_wp2
    go_ret
    exact ⟨rfl, rfl⟩
  · subst h1
    have h2 : ¬ a < a := by omega
    go_enter Tryd.func32, Tryd.ntmps32
    go_wp2
    go_ret
    exact ⟨ret_int (by first | rfl | simp), rfl⟩
  · have h2 : ¬ a < b := by omega
    have h3 : ¬ a ≤ b := by omega
    go_enter Tryd.func32, Tryd.ntmps32
    go_wp2
    go_ret
    exact ⟨rfl, rfl⟩
theorem l1AbsZ_any (d : Int) (w : World) (h1 : -12 ≤ d) (h2 : d ≤ 12) : Calls Tryd.prog 17 #[.int .i64 d] w fun e w' => e = .returned (.int .i64 (absZ d)) ∧ w = w' := by
  have hww : IntKind.i64.wrap (-d) = -d := IntWalk.i64_in _ (by omega)
  have hm : (if -d < d then d else -d) = absZ d := by unfold absZ; split <;> split <;> omega
  go_enter Tryd.func17, Tryd.ntmps17
  go_wp2_with (first | (go_at_call 32; refine (l1MostZ _ _ _).mono ?_; rintro e w' ⟨rfl, rfl⟩; rw [hm]) | fail)
  go_ret
  exact ⟨rfl, rfl⟩
theorem l1Put_any (u : Value) (xs : List Int) (x : Int) (B : Nat) (w : World) (h : Own w B u xs) (hl : xs.length ≤ 12) (hB : B ≤ w.heap.size) :
    Calls Tryd.prog 15 #[u, .int .i64 x] w fun e w' => ∃ u', e = .returned u' ∧ Own w' B u' (putL x xs) ∧ Below w.heap.size w w' := by
  rcases h.form with ⟨rfl, rfl⟩ | ⟨g, cap, rfl, _⟩
  · refine (l1Put_nil x w).mono ?_
    rintro e w' ⟨u', h1, h2, h3⟩
    exact ⟨u', h1, h2.mono hB, h3⟩
  · exact l1Put_some g cap xs x B w h hl hB
set_option maxHeartbeats 2000000 in
theorem spec_PathThrough_any (n : Int) (v : Value) (xs : List Int) (w : World) (_wn : (Lit.int .i64 n).wf = true) (h : Sits w v xs) (hl : xs.length ≤ 1048576) (_hwf : ∀ x ∈ xs, (Lit.int .i64 x).wf = true) (_ht : TZ w) :
    Calls Tryd.prog 5 #[.int .i64 n, v] w fun e w' => ∃ u, e = .returned (.tuple #[u, .bool (ptB n xs)]) ∧ Own w' w.heap.size u (ptRes n xs) ∧ Below w.heap.size w w' := by
  have HS := hid h
  obtain ⟨b, off, c, rfl, hc1, hm, hb, hc⟩ := h
  have HC := hid hc
  clear hc
  by_cases h1 : wordsB n xs = true
  · have HSM := hid (wordsB_small h1)
    have HW := hid h1
    cases h2 : inB (xs.length : Int) 1 12 with
    | true =>
      have h23 := inB_iff.1 h2
      have HIN := hid h2
      clear h1 h2 _wn _hwf _ht
      go_enter Tryd.func5, Tryd.ntmps5
      go_wp2_with (first
        | (go_at_call 13; refine (gcWords_any _ _ xs _ HS.out).mono ?_; rintro e w' ⟨rfl, rfl⟩; rw [HW.out])
        | (go_at_call 14; refine (l1In_any _ _ _ _).mono ?_; rintro e w' ⟨rfl, rfl⟩; rw [HIN.out])
        | fail)
      go_loopw [6, 8, 24] (fun u _ i wr => ∃ k : Nat, k ≤ xs.length ∧ i = .int .i64 k ∧ Own wr w.heap.size u (sortW (xs.take k)) ∧ Below w.heap.size w wr) (fun _ _ i _ => xs.length - (intOf i).toNat)
      case atStart => exact ⟨0, Nat.zero_le _, rfl, Own.nil _ _, Below.refl _ _⟩
      case round =>
        obtain ⟨k, hk, rfl, hown, hbel⟩ := hrel
        have HO := hid hown
        have HB := hid hbel
        have hsz := hbel.size
        by_cases hlt : k < xs.length
        · have hcx : wr.cell? ⟨b, off + k, none⟩ = some (.int .i64 xs[k]) := (hbel.cell (by exact hb)).trans (HC.out k hlt)
          have HL := hid (show (sortW (xs.take k)).length ≤ 12 by have := (sort_facts xs k hk).2.2.1; omega)
          have HN := hid (sortTo_succ hlt)
          obtain ⟨x, hx⟩ : ∃ x, x = xs[k] := ⟨_, rfl⟩
          rw [← hx] at hcx HN
          clear hown hbel hx
          go_wp2_with (first | (go_at_call 15; refine (l1Put_any _ _ x w.heap.size _ HO.out HL.out hsz).mono ?_; rintro e w1 ⟨u1, rfl, ho1, hb1⟩; rw [← HN.out] at ho1; have HO1 := hid ho1; have HB1 := hid hb1; clear ho1 hb1) | fail)
          go_roundw
          case rel => exact ⟨k + 1, by omega, by go_num, HO1.out, Below_chain HB.out HB1.out⟩
          case measure => simp [intOf]; omega
        · obtain rfl : k = xs.length := by omega
          rw [List.take_length] at hown HO
          obtain ⟨ys, hys⟩ : ∃ ys, ys = sortW xs := ⟨_, rfl⟩
          rw [← hys] at hown HO
          have hfac := sort_facts xs xs.length (Nat.le_refl _)
          rw [List.take_length, ← hys] at hfac
          have HYL := hid (show ys.length = xs.length ↔ diffB xs = true from hfac.2.2.2)
          have hy12 : ys.length ≤ 12 := by have := hfac.2.2.1; omega
          have hyne : 0 < ys.length := by
            apply Classical.byContradiction
            intro h0
            have hnil : ys = [] := List.eq_nil_of_length_eq_zero (by omega)
            have hx0 : 0 < xs.length := by omega
            have := (hfac.2.1 xs[0]).2 (List.getElem_mem hx0)
            rw [hnil] at this
            simp at this
          have HWS := hid (show ∀ i (hi : i < ys.length), 0 ≤ ys[i] ∧ ys[i] < 1024 from fun i hi => by
            have hm := (hfac.2.1 ys[i]).1 (List.getElem_mem hi)
            obtain ⟨j, hj, e⟩ := List.mem_iff_getElem.1 hm
            obtain ⟨y, hy, hy2⟩ := HSM.out j hj
            rw [getD_at hj, e] at hy
            omega)
          have HSY := hid (show small ys from fun i hi => ⟨ys[i].toNat, by rw [getD_at hi]; have := HWS.out i hi; omega, by have := HWS.out i hi; omega⟩)
          rcases hown.form with ⟨_, h0⟩ | ⟨g, cap, rfl, _⟩
          · rw [h0] at hyne; simp at hyne
          have HSIT := hid hown.sits
          have hy20 : ys.length ≤ 1048576 := by omega
          obtain ⟨o, ho⟩ : ∃ o : Nat, o = oddOf ys ys.length := ⟨_, rfl⟩
          have hole : o ≤ ys.length := by rw [ho]; exact oddOf_le ys ys.length
          have HO9 := hid ho
          cases hd : diffB xs with
          | false =>
            have HOK := hid (show ptOk n xs = false by rw [ptOk, hd]; simp)
            have HBB := hid (ptB_no HOK.out)
            have HR := hid (ptRes_no HOK.out)
            have hlen : ¬ ys.length = xs.length := fun e => by rw [HYL.out.1 e] at hd; cases hd
            have hbb : ((ys.length : Int) != (xs.length : Int)) = true := by simp; omega
            clear hd hlen hfac hys hown hbel ho
            go_wp2_with (first
              | (go_at_call 16; refine (gcHalves_any _ ys _ HSIT.out HSY.out hy20).mono ?_; rintro e w1 ⟨rfl, rfl⟩; rw [← HO9.out])
              | fail)
            go_ret2
            exact ⟨_, ret_sb9 HBB.out.symm, by rw [HR.out]; exact Own.nil _ _, HB.out⟩
          | true =>
            have hlen : ys.length = xs.length := HYL.out.2 hd
            have HLEN := hid hlen
            have hbb : ((ys.length : Int) != (xs.length : Int)) = false := by simp [hlen]
            have HOK := hid (show ptOk n xs = true by rw [ptOk, HW.out, hd, decide_eq_true (by omega), decide_eq_true (by omega)]; rfl)
            have HPL := hid (show ptL xs = gcp ys ys.length [] by rw [hys]; rfl)
            obtain ⟨d, hdd⟩ : ∃ d : Int, d = (ys.length : Int) - o - o := ⟨_, rfl⟩
            have hw1 : IntKind.i64.wrap ((ys.length : Int) - (o : Int) - (o : Int)) = d := by rw [hdd]; exact IntWalk.i64_in _ (by omega)
            have hd1 : -12 ≤ d := by omega
            have hd2 : d ≤ 12 := by omega
            have HDD := hid hdd
            obtain ⟨a, ha⟩ : ∃ a, a = absZ d := ⟨_, rfl⟩
            have HAA := hid ha
            by_cases ha1 : 1 < a
            · have HZ := hid (show (gcp ys ys.length []).length = 0 from halves_refuse (fun y hy => by
                obtain ⟨i, hi, e⟩ := List.mem_iff_getElem.1 hy
                rw [← e]; exact HWS.out i hi) hyne (by
                rw [← ho]
                intro hcon
                rw [ha, absZ] at ha1
                split at ha1 <;> omega))
              have HBB := hid (show ptB n xs = false by rw [ptB_yes HOK.out, HPL.out, HZ.out]; rfl)
              have HR := hid (show ptRes n xs = [] by rw [ptRes_yes HOK.out, HPL.out]; exact List.eq_nil_of_length_eq_zero HZ.out)
              clear hd hlen hfac hys hown hbel ho hdd ha
              go_wp2_with (first
                | (go_at_call 16; refine (gcHalves_any _ ys _ HSIT.out HSY.out hy20).mono ?_; rintro e w1 ⟨rfl, rfl⟩; rw [← HO9.out])
                | (go_at_call 17; refine (l1AbsZ_any d _ hd1 hd2).mono ?_; rintro e w1 ⟨rfl, rfl⟩; rw [← HAA.out])
                | fail)
              go_ret2
              exact ⟨_, ret_sb9 HBB.out.symm, by rw [HR.out]; exact Own.nil _ _, HB.out⟩
            · obtain ⟨q, hq⟩ : ∃ q, q = gcp ys ys.length [] := ⟨_, rfl⟩
              have HQ := hid hq
              have HR := hid (show ptRes n xs = q by rw [ptRes_yes HOK.out, HPL.out, hq])
              have HBB := hid (show ptB n xs = decide (0 < q.length) by rw [ptB_yes HOK.out, HPL.out, ← hq])
              have HQD := hid (show (decide ((0 : Int) < (q.length : Int))) = decide (0 < q.length) by
                by_cases hz : 0 < q.length
                · rw [decide_eq_true hz, decide_eq_true (by omega)]
                · rw [decide_eq_false hz, decide_eq_false (by omega)])
              clear hd hlen hfac hys hown hbel ho hdd ha hq
              go_wp2_with (first
                | (go_at_call 16; refine (gcHalves_any _ ys _ HSIT.out HSY.out hy20).mono ?_; rintro e w1 ⟨rfl, rfl⟩; rw [← HO9.out])
                | (go_at_call 17; refine (l1AbsZ_any d _ hd1 hd2).mono ?_; rintro e w1 ⟨rfl, rfl⟩; rw [← HAA.out])
                | (go_at_call 18; refine (gcPath_any ys g 0 cap HWS.out hy12 ys.length [] _ w.heap.size _ (by simp) (Own.nil _ _) hsz (fun i hi => by simp at hi) HSIT.out).mono ?_; rintro e w3 ⟨u3, rfl, ho3, hb3⟩; rw [← HQ.out] at ho3; obtain ⟨ao3, c3, rfl⟩ := ho3.slice; have HO3 := hid ho3; have HB3 := hid hb3; clear ho3 hb3)
                | fail)
              go_ret2
              exact ⟨_, ret_sb9 HBB.out.symm, by rw [HR.out]; exact HO3.out, Below_chain HB.out HB3.out⟩
    | false =>
      have HIN := hid h2
      have hno : ¬ (1 ≤ xs.length ∧ xs.length ≤ 12) := fun h => by rw [inB_iff.2 ⟨by omega, by omega⟩] at h2; cases h2
      have HOK := hid (show ptOk n xs = false by
        rw [ptOk]
        by_cases h3 : 1 ≤ xs.length
        · rw [decide_eq_false (fun h => hno ⟨h3, h⟩)]; simp
        · rw [decide_eq_false h3]; simp)
      have HBB := hid (ptB_no HOK.out)
      have HR := hid (ptRes_no HOK.out)
      clear h1 h2 hno _wn _hwf _ht
      go_enter Tryd.func5, Tryd.ntmps5
      go_wp2_with (first
        | (go_at_call 13; refine (gcWords_any _ _ xs _ HS.out).mono ?_; rintro e w' ⟨rfl, rfl⟩; rw [HW.out])
        | (go_at_call 14; refine (l1In_any _ _ _ _).mono ?_; rintro e w' ⟨rfl, rfl⟩; rw [HIN.out])
        | fail)
      go_ret2
      exact ⟨_, ret_sb9 HBB.out.symm, by rw [HR.out]; exact Own.nil _ _, Below.refl _ _⟩
  · have h1 : wordsB n xs = false := by simpa using h1
    have HOK := hid (show ptOk n xs = false by rw [ptOk, h1]; rfl)
    have HBB := hid (ptB_no HOK.out)
    have HR := hid (ptRes_no HOK.out)
    have HW := hid h1
    clear h1 _wn _hwf _ht
    go_enter Tryd.func5, Tryd.ntmps5
    go_wp2_with (first
      | (go_at_call 13; refine (gcWords_any _ _ xs _ HS.out).mono ?_; rintro e w' ⟨rfl, rfl⟩; rw [HW.out])
      | fail)
    go_ret2
    exact ⟨_, ret_sb9 HBB.out.symm, by rw [HR.out]; exact Own.nil _ _, Below.refl _ _⟩
end Go.Proofs.YtijjdidljoicfaaDoor
