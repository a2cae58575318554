/- Contracts: suTorus, suWindow. Conditions: a torus whose rows are slices that are not nil. -/
import Derived.Test.YteimfdpkodcfbaaTorM
import Derived.Test.YteimfdpkodcfbaaBs3
import Derived.Test.YteimfdpkodcfbaaBs2
namespace Go.Proofs.Yteimfdpkodcfbaa
open Go.RowKit
set_option linter.unusedVariables false
set_option maxRecDepth 4000

theorem tuB_no {L : List (List Int)} (h : ¬ (1 ≤ L.length ∧ L.length ≤ 16 ∧ 16 % L.length = 0)) : tuB L = false := by unfold tuB; rw [decide_eq_false h]; rfl
theorem tuB_yes {L : List (List Int)} (h : 1 ≤ L.length ∧ L.length ≤ 16 ∧ 16 % L.length = 0) : tuB L = allTo L.length (fun i => trwB (16 / L.length) (L.getD i [])) := by unfold tuB; rw [decide_eq_true h]; rfl
theorem suTorus_any (v : Value) (L : List (List Int)) (w : World) (h : SitsL w v L) :
    Calls Try.prog 103 #[.agg #[v]] w fun e w' => e = .returned (.bool (tuB L)) ∧ Below w.heap.size w w' := by
  obtain ⟨b, off, c, rfl, hc1, hcm, hb, hc⟩ := h
  have HC := hid hc
  clear hc
  obtain ⟨n, hn⟩ : ∃ n, n = L.length := ⟨_, rfl⟩
  have HN := hid hn
  rw [← hn] at hc1 ⊢
  have HB0 := hid ((Below.refl w.heap.size w).alloc (Nat.le_refl _) (.cells #[.slice (some ⟨b, off, none⟩) n c] 48))
  clear hn
  cases h16 : inB (n : Int) 1 16 with
  | false =>
    have HF := hid (tuB_no (L := L) (fun h => by
      rw [← HN.out] at h
      rw [show inB (n : Int) 1 16 = true from inB_iff.2 (by omega)] at h16
      cases h16))
    go_enter Try.func103, Try.ntmps103
    go_wp2_with (first
      | (go_at_call 96; (refine (l1In_any _ _ _ _).mono ?_); (rintro e w' ⟨rfl, rfl⟩); (rw [h16]))
      | fail)
    go_ret
    exact ⟨ret_bool HF.out.symm, HB0.out⟩
  | true =>
    have h1 := inB_iff.1 h16
    have hn0 : ¬ (n : Int) = 0 := by omega
    have hn0' : ((n : Int) == 0) = false := beq_eq_false_iff_ne.2 hn0
    have H16 := hid h16
    obtain ⟨r, hr⟩ : ∃ r, r = 16 % n := ⟨_, rfl⟩
    have hri : (16 : Int) % (n : Int) = (r : Int) := by rw [hr, Int.natCast_emod]; rfl
    have hri2 : (16 : Int).tmod (n : Int) = (r : Int) := by rw [Int.tmod_eq_emod_of_nonneg (by omega), hri]
    have hr16 : r ≤ 16 := by rw [hr]; exact Nat.mod_le _ _
    have HR := hid hr
    clear h16 hr
    by_cases hr0 : r = 0
    · obtain ⟨q, hq⟩ : ∃ q, q = 16 / n := ⟨_, rfl⟩
      have hqi : (16 : Int) / (n : Int) = (q : Int) := by rw [hq, Int.natCast_ediv]; rfl
      have hqi2 : (16 : Int).tdiv (n : Int) = (q : Int) := by rw [Int.tdiv_eq_ediv_of_nonneg (by omega), hqi]
      have hq16 : q ≤ 16 := by rw [hq]; exact Nat.div_le_self _ _
      have HT := hid (show tuB L = allTo n (fun i => trwB q (L.getD i [])) by
        rw [tuB_yes (by rw [← HN.out]; exact ⟨by omega, by omega, by rw [← HR.out]; exact hr0⟩), ← HN.out, hq])
      have hrz : ((r : Int) != 0) = false := by rw [hr0]; rfl
      clear hq hr0
      go_enter Try.func103, Try.ntmps103
      go_wp2_with (first
        | (go_at_call 96; (refine (l1In_any _ _ _ _).mono ?_); (rintro e w' ⟨rfl, rfl⟩); (rw [H16.out]))
        | fail)
      go_loopw [5, 20] (fun _ i wr => ∃ k : Nat, i = .int .i64 (k : Int) ∧ k ≤ n ∧ allTo k (fun i => trwB q (L.getD i [])) = true ∧ wr = w.alloc (.cells #[.slice (some ⟨b, off, none⟩) n c] 48)) (fun _ i _ => n - (intOf i).toNat)
      case atStart => exact ⟨0, rfl, Nat.zero_le _, rfl, rfl⟩
      case round =>
        obtain ⟨k, rfl, hk, hall, rfl⟩ := hrel
        have HA := hid hall
        clear hall
        by_cases hlt : k < n
        · obtain ⟨u, hu, hsit⟩ := HC.out k (by rw [← HN.out]; exact hlt)
          have HGD := hid (show L.getD k [] = L[k]'(by rw [← HN.out]; exact hlt) by rw [List.getD_eq_getElem?_getD, List.getElem?_eq_getElem (by rw [← HN.out]; exact hlt)]; rfl)
          obtain ⟨l, hl⟩ : ∃ l, l = L[k]'(by rw [← HN.out]; exact hlt) := ⟨_, rfl⟩
          rw [← hl] at hsit HGD
          have hcx := (HB0.out.cell (p := ⟨b, off + k, none⟩) (by exact hb)).trans hu
          have HS := hid (hsit.below HB0.out)
          obtain ⟨b2, o2, c2, rfl, hd1, hdm, hb2, hd⟩ := hsit
          clear hd hu hl
          obtain ⟨m, hm⟩ : ∃ m, m = l.length := ⟨_, rfl⟩
          have HM := hid hm
          rw [← hm] at hcx HS hd1
          clear hm
          by_cases hml : m = q
          · have hne : ((m : Int) != (q : Int)) = false := by rw [hml]; simp
            have HML := hid hml
            clear hml
            cases hbl : belowB l 2 with
            | false =>
              have HAL := hid (show allTo l.length (fun i => inB (l.getD i 0) 0 1) = false from hbl)
              have HF := hid (show tuB L = false by
                rw [HT.out]
                refine allTo_no hlt ?_
                show trwB q (L.getD k []) = false
                rw [HGD.out]; unfold trwB; rw [hbl, Bool.and_false])
              clear hbl
              go_wp2_with (first
                | (go_at_call 110; (refine (l1All_any _ l _ _ _ HS.out).mono ?_); (rintro e w' ⟨rfl, rfl⟩); (rw [HAL.out]))
                | fail)
              go_ret
              exact ⟨ret_bool HF.out.symm, HB0.out⟩
            | true =>
              have HAL := hid (show allTo l.length (fun i => inB (l.getD i 0) 0 1) = true from hbl)
              have HOK := hid (show trwB q (L.getD k []) = true by
                rw [HGD.out]; unfold trwB; rw [hbl, Bool.and_true]; exact decide_eq_true (by rw [← HM.out]; exact HML.out))
              clear hbl
              go_wp2_with (first
                | (go_at_call 110; (refine (l1All_any _ l _ _ _ HS.out).mono ?_); (rintro e w' ⟨rfl, rfl⟩); (rw [HAL.out]))
                | fail)
              go_roundw
              case rel => exact ⟨k + 1, by go_num, hlt, allTo_next HA.out HOK.out, trivial⟩
              case measure => simp [intOf]; omega
          · have hne : ((m : Int) != (q : Int)) = true := by simp; omega
            have HF := hid (show tuB L = false by
              rw [HT.out]
              refine allTo_no hlt ?_
              show trwB q (L.getD k []) = false
              rw [HGD.out]; unfold trwB; rw [decide_eq_false (by rw [← HM.out]; exact hml)]; rfl)
            go_wp2_with fail
            go_ret
            exact ⟨ret_bool HF.out.symm, HB0.out⟩
        · obtain rfl : k = n := by omega
          have HF := hid (show tuB L = true by rw [HT.out]; exact HA.out)
          go_wp2_with fail
          go_ret
          exact ⟨ret_bool HF.out.symm, HB0.out⟩
    · have HF := hid (tuB_no (L := L) (fun h => hr0 (by rw [HR.out, HN.out]; exact h.2.2)))
      have hrz : ((r : Int) != 0) = true := by simp; omega
      clear hr0
      go_enter Try.func103, Try.ntmps103
      go_wp2_with (first
        | (go_at_call 96; (refine (l1In_any _ _ _ _).mono ?_); (rintro e w' ⟨rfl, rfl⟩); (rw [H16.out]))
        | fail)
      go_ret
      exact ⟨ret_bool HF.out.symm, HB0.out⟩
end Go.Proofs.Yteimfdpkodcfbaa
