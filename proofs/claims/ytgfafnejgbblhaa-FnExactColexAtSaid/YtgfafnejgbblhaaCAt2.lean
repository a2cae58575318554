/- Contract: impl.CombinationAt. Conditions: none. -/
import Derived.Test.YtgfafnejgbblhaaCAt1
namespace Go.Proofs.Ytgfafnejgbblhaa
open Go.RowKit
set_option linter.unusedVariables false

theorem outTo_front (F : Nat → List (List Int)) (f m : Nat) : outTo F f (m + 1) = (F (f + 1)).map (fun l => (f : Int) :: l) ++ outTo F (f + 1) m := by
  induction m with
  | zero => simp [outTo]
  | succ m ih =>
    rw [outTo, ih, outTo, List.append_assoc]
    congr 2
    rw [show f + (m + 1) + 1 = f + 1 + m + 1 by omega, show f + (m + 1) = f + 1 + m by omega]
theorem allL_front {n k f : Nat} (h : f < n) : allL n (k + 1) f = (allL n k (f + 1)).map (fun l => (f : Int) :: l) ++ allL n (k + 1) (f + 1) := by
  rw [allL, allL, show n - f = (n - (f + 1)) + 1 by omega, outTo_front]
/-- how far the loop of CombinationAt has come: the elements done, the next candidate x, the rank left -/
def CatInv (n k : Nat) (all : List Int) (x r : Nat) (done : List Int) : Prop :=
  done.length ≤ k ∧ r < (allL n (k - done.length) x).length ∧ done ++ (allL n (k - done.length) x).getD r [] = all
theorem CatInv.bounds {n k x r : Nat} {all done : List Int} (h : CatInv n k all x r done) (hk : done.length < k) : x < n := by
  obtain ⟨h1, h2, h3⟩ := h
  obtain ⟨e, he⟩ : ∃ e, k - done.length = e + 1 := ⟨k - done.length - 1, by omega⟩
  rw [he, allL] at h2
  by_cases hx : x < n
  · exact hx
  · rw [show n - x = 0 by omega] at h2
    simp [outTo] at h2
theorem CatInv.take {n k x r : Nat} {all done : List Int} (hn : n ≤ 12) (hk12 : k ≤ 12) (h : CatInv n k all x r done) (hk : done.length < k) (hr : r < binom (n - 1 - x) (k - 1 - done.length)) :
    CatInv n k all (x + 1) r (done ++ [(x : Int)]) := by
  have hx := h.bounds hk
  obtain ⟨h1, h2, h3⟩ := h
  have he : k - done.length = (k - 1 - done.length) + 1 := by omega
  have hlen : (allL n (k - 1 - done.length) (x + 1)).length = binom (n - 1 - x) (k - 1 - done.length) := by
    rw [allL_len n hn _ _ (by omega), show n - (x + 1) = n - 1 - x by omega]
  rw [he, allL_front hx] at h3
  have hd : (done ++ [(x : Int)]).length = done.length + 1 := by simp
  refine ⟨by omega, by rw [hd, show k - (done.length + 1) = k - 1 - done.length by omega, hlen]; exact hr, ?_⟩
  rw [hd, show k - (done.length + 1) = k - 1 - done.length by omega, ← h3]
  have hlt : r < (allL n (k - 1 - done.length) (x + 1)).length := by rw [hlen]; exact hr
  simp [List.getD_eq_getElem?_getD, List.getElem?_append_left, hlt]
theorem CatInv.skip {n k x r : Nat} {all done : List Int} (hn : n ≤ 12) (hk12 : k ≤ 12) (h : CatInv n k all x r done) (hk : done.length < k) (hr : ¬ r < binom (n - 1 - x) (k - 1 - done.length)) :
    CatInv n k all (x + 1) (r - binom (n - 1 - x) (k - 1 - done.length)) done := by
  have hx := h.bounds hk
  obtain ⟨h1, h2, h3⟩ := h
  have he : k - done.length = (k - 1 - done.length) + 1 := by omega
  have hlen : (allL n (k - 1 - done.length) (x + 1)).length = binom (n - 1 - x) (k - 1 - done.length) := by
    rw [allL_len n hn _ _ (by omega), show n - (x + 1) = n - 1 - x by omega]
  rw [he, allL_front hx] at h2 h3
  rw [List.length_append, List.length_map, hlen] at h2
  refine ⟨h1, by rw [he]; omega, ?_⟩
  rw [he, ← h3, List.getD_eq_getElem?_getD, List.getD_eq_getElem?_getD, List.getElem?_append_right (by rw [List.length_map, hlen]; omega), List.length_map, hlen]

theorem Own.of_made {w : World} {base g c : Nat} (h : w.ownsRow base 3 1 (.slice (some ⟨g, 0, none⟩) 0 c) 0 []) : Own w base (.slice (some ⟨g, 0, none⟩) 0 c) [] := h
set_option maxHeartbeats 800000 in
theorem impl_CombinationAt_any (n k r : Int) (w : World) (_wn : (Lit.int .i64 n).wf = true) (_wk : (Lit.int .i64 k).wf = true) (_wr : (Lit.int .i64 r).wf = true) :
    Calls Try.prog 26 #[.int .i64 n, .int .i64 k, .int .i64 r] w fun e w' => ∃ u, e = .returned (.tuple #[u, .bool (catB n k r)]) ∧ Own w' w.heap.size u (catRes n k r) ∧ Below w.heap.size w w' := by
  by_cases h1 : inB n 0 12 = true
  · by_cases h2 : inB k 0 12 = true
    · obtain ⟨N, rfl, hN⟩ := inB_nat3 h1
      obtain ⟨K, rfl, hK⟩ := inB_nat3 h2
      have hlen := allL_len N hN K 0 hK
      rw [Nat.sub_zero] at hlen
      have hbb := binom_le N (by omega) K (by omega)
      have HCZ := hid (chooseZ_nat N K (by omega) (by omega))
      by_cases h3 : 0 ≤ r
      · obtain ⟨R, rfl⟩ := Int.eq_ofNat_of_zero_le h3
        by_cases h4 : R < binom N K
        · have HF : Hid (catB (N : Int) (K : Int) (R : Int) = true) := by
            show catB (N : Int) (K : Int) (R : Int) = true
            rw [catB, h1, h2]; simp [ofB, inB, hlen]; omega
          have HX := hid (catRes_yes HF.out)
          obtain ⟨all, hall⟩ : ∃ all, all = (allL N K 0).getD R [] := ⟨_, rfl⟩
          have HI0 : Hid (CatInv N K all 0 R []) := hid ⟨Nat.zero_le _, by simpa [hlen] using h4, by rw [hall]; simp⟩
          have HALL := hid hall
          obtain ⟨i0, hi, hz0, hz1, hz2⟩ := info_parts Try.info3
          obtain ⟨B, hB⟩ : ∃ B, B = binom N K := ⟨_, rfl⟩
          rw [← hB] at h4 hbb HCZ
          have HMB := hid (show i0.bytes * K ≤ 281474976710656 by rw [hz2]; omega)
          have HMM := hid (show K ≤ maxLen by unfold maxLen; omega)
          clear hlen hall hB
          go_enter Try.func26, Try.ntmps26
          go_wp2_with (first
            | (go_at_call 48; refine (isItemCount_any _ _).mono ?_; rintro e w' ⟨rfl, rfl⟩)
            | (go_at_call 51; refine (choose_any _ _ _ (by omega) (by omega)).mono ?_; rintro e w' ⟨rfl, rfl⟩; rw [HCZ.out])
            | (at_make; refine wpList_make_own _ rfl _ _ 27 rfl w.heap.size 3 i0 (.int .i64 0) 1 Try.underlying27 hi hz0 hz1 .i64 .i64 _ K rfl rfl rfl HMB.out HMM.out (Nat.le_refl _) ?_; intro w1 hmade hgm; have HOM := hid (Own.of_made hmade); have HBM := hid ((Below.refl w.heap.size w).grown hgm (Nat.le_refl _) (fun q hq => by cases hq)); clear hmade hgm)
            | fail)
          go_loopw [2, 8, 9, 10] (fun rv lv xv _ wr => ∃ (x R' g cap : Nat) (done : List Int), xv = .int .i64 x ∧ x ≤ N ∧ rv = .int .i64 R' ∧ R' ≤ 2000 ∧ lv = .slice (some ⟨g, 0, none⟩) done.length cap ∧ CatInv N K all x R' done ∧ Own wr w.heap.size (.slice (some ⟨g, 0, none⟩) done.length cap) done ∧ Below w.heap.size w wr) (fun _ _ xv _ _ => (N + 1) - (intOf xv).toNat)
          case atStart => exact ⟨0, R, w.heap.size, K, [], rfl, Nat.zero_le _, rfl, by omega, rfl, HI0.out, HOM.out, HBM.out⟩
          case round =>
            obtain ⟨x, R', g, cap, done, rfl, hxN, rfl, hR', rfl, hinv, hown, hbel⟩ := hrel
            have hdl := hinv.1
            have HINV := hid hinv
            have HOW := hid hown
            have HB := hid hbel
            have hsz := hbel.size
            clear hinv hown hbel
            by_cases hlt : done.length < K
            · have hx := HINV.out.bounds hlt
              have hbn : binom (N - 1 - x) (K - 1 - done.length) ≤ 924 := binom_le _ (by omega) _ (by omega)
              have HCH : Hid (chooseZ ((N : Int) - 1 - (x : Int)) ((K : Int) - 1 - (done.length : Int)) = binom (N - 1 - x) (K - 1 - done.length)) := by
                show chooseZ ((N : Int) - 1 - (x : Int)) ((K : Int) - 1 - (done.length : Int)) = binom (N - 1 - x) (K - 1 - done.length)
                rw [show ((N : Int) - 1 - (x : Int)) = ((N - 1 - x : Nat) : Int) by omega, show ((K : Int) - 1 - (done.length : Int)) = ((K - 1 - done.length : Nat) : Int) by omega]
                exact chooseZ_nat _ _ (by omega) (by omega)
              obtain ⟨C, hC⟩ : ∃ C, C = binom (N - 1 - x) (K - 1 - done.length) := ⟨_, rfl⟩
              rw [← hC] at hbn HCH
              by_cases hr : R' < C
              · have HNX := hid (HINV.out.take hN hK hlt (by rw [← hC]; exact hr))
                have HLN := hid (show (done ++ [(x : Int)]).length = done.length + 1 by simp)
                have hdl12 : done.length ≤ 12 := by omega
                clear hC
                go_wp2_with (first
                  | (go_at_call 51; refine (choose_any _ _ _ (by omega) (by omega)).mono ?_; rintro e w' ⟨rfl, rfl⟩; rw [HCH.out])
                  | (at_builtin; refine wpList_append_own _ rfl _ _ 27 rfl w.heap.size 3 i0 (.int .i64 0) 1 8 Try.underlying27 hi hz0 hz1 hz2 rfl (by decide) _ _ _ rfl (World.ownsRow.alloc HOW.out.row _) ⟨wr.heap.size, 0, none⟩ 1 1 [.int .i64 (x : Int)] rfl rfl (fun j u hj => new_cell1 j hj) (one_cell _ _) ?c3 ?c4 ?c5 ?_)
                  | fail)
                case c3 => unfold maxLen; omega
                case c4 => omega
                case c5 => (try simp); omega
                intro v' w4 hown' hgrow _
                have hown2 : Own w4 w.heap.size v' (done ++ [(x : Int)]) := Own.snoc hown'
                have HB4 := hid ((HB.out.alloc hsz (.cells #[.int .i64 (x : Int)] 3)).grown hgrow (Nat.le_trans hsz (size_alloc2 _ _)) (fun q hq => (World.ownsRow.lt HOW.out q hq).1))
                rcases hown2.form with ⟨_, e2⟩ | ⟨g4, cap4, rfl, _⟩
                · simp at e2
                · have HO4 := hid hown2
                  clear hown' hgrow hown2
                  go_wp2_with fail
                  go_roundw
                  case rel => exact ⟨x + 1, R', g4, cap4, done ++ [(x : Int)], by go_num, by omega, rfl, hR', by rw [HLN.out], HNX.out, by rw [HLN.out]; exact (by simpa using HO4.out), HB4.out⟩
                  case measure => simp [intOf]; omega
              · have HNX := hid (HINV.out.skip hN hK hlt (by rw [← hC]; exact hr))
                rw [← hC] at HNX
                have HSB := hid (show ((R' - C : Nat) : Int) = (R' : Int) - (C : Int) by omega)
                clear hC
                go_wp2_with (first
                  | (go_at_call 51; refine (choose_any _ _ _ (by omega) (by omega)).mono ?_; rintro e w' ⟨rfl, rfl⟩; rw [HCH.out])
                  | fail)
                go_roundw
                case rel => exact ⟨x + 1, R' - C, g, cap, done, by go_num, by omega, by rw [HSB.out], by omega, rfl, HNX.out, HOW.out, HB.out⟩
                case measure => simp [intOf]; omega
            · have HE : Hid (done = all) := by
                show done = all
                obtain ⟨a1, a2, a3⟩ := HINV.out
                rw [show K - done.length = 0 by omega, allL] at a2 a3
                have : R' = 0 := by simpa using a2
                rw [this] at a3
                simpa using a3
              go_wp2_with fail
              go_ret2
              exact ⟨_, ret_sb6 HF.out.symm, by rw [HX.out, Int.toNat_natCast, Int.toNat_natCast, Int.toNat_natCast, ← HALL.out, ← HE.out]; exact HOW.out, HB.out⟩
        · have HF : Hid (catB (N : Int) (K : Int) (R : Int) = false) := by
            show catB (N : Int) (K : Int) (R : Int) = false
            rw [catB, h1, h2]; simp [ofB, inB, hlen]; omega
          have HX := hid (catRes_no HF.out)
          have hge : (binom N K : Int) ≤ (R : Int) := by omega
          clear hlen
          go_enter Try.func26, Try.ntmps26
          go_wp2_with (first
            | (go_at_call 48; refine (isItemCount_any _ _).mono ?_; rintro e w' ⟨rfl, rfl⟩)
            | (go_at_call 51; refine (choose_any _ _ _ (by omega) (by omega)).mono ?_; rintro e w' ⟨rfl, rfl⟩; rw [HCZ.out])
            | fail)
          go_ret2
          exact ⟨_, ret_sb6 HF.out.symm, by rw [HX.out]; exact Own.nil _ _, Below.refl _ _⟩
      · have HF : Hid (catB (N : Int) (K : Int) r = false) := by
          show catB (N : Int) (K : Int) r = false
          rw [catB, h1, h2]; simp [ofB, inB]; omega
        have HX := hid (catRes_no HF.out)
        clear hlen
        go_enter Try.func26, Try.ntmps26
        go_wp2_with (first | (go_at_call 48; refine (isItemCount_any _ _).mono ?_; rintro e w' ⟨rfl, rfl⟩) | fail)
        go_ret2
        exact ⟨_, ret_sb6 HF.out.symm, by rw [HX.out]; exact Own.nil _ _, Below.refl _ _⟩
    · have h2 : inB k 0 12 = false := by simpa using h2
      have HF : Hid (catB n k r = false) := by
        show catB n k r = false
        rw [catB, h2]; simp
      have HX := hid (catRes_no HF.out)
      go_enter Try.func26, Try.ntmps26
      go_wp2_with (first | (go_at_call 48; refine (isItemCount_any _ _).mono ?_; rintro e w' ⟨rfl, rfl⟩) | fail)
      go_ret2
      exact ⟨_, ret_sb6 HF.out.symm, by rw [HX.out]; exact Own.nil _ _, Below.refl _ _⟩
  · have h1 : inB n 0 12 = false := by simpa using h1
    have HF : Hid (catB n k r = false) := by
      show catB n k r = false
      rw [catB, h1]; simp
    have HX := hid (catRes_no HF.out)
    go_enter Try.func26, Try.ntmps26
    go_wp2_with (first | (go_at_call 48; refine (isItemCount_any _ _).mono ?_; rintro e w' ⟨rfl, rfl⟩) | fail)
    go_ret2
    exact ⟨_, ret_sb6 HF.out.symm, by rw [HX.out]; exact Own.nil _ _, Below.refl _ _⟩
end Go.Proofs.Ytgfafnejgbblhaa
