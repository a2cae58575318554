/- Contracts: the order of words (lyCompare, slices.Compare, isLess), least rotations (lyLeast, leastRotation). Conditions: slices that read as lists; letters in 0..5 where the model takes a difference; at most 24 letters for rotations. -/
import Derived.Test.YtjghjlhjeibfoabLy1
import Derived.Test.YtjghjlhjeibfoabCopG
namespace Go.Proofs.Ytjghjlhjeibfoab
open Go.RowKit
set_option linter.unusedVariables false
set_option maxRecDepth 4000

theorem cmpL_sgn {a b : List Int} (k : Nat) (h : ∀ i, i < k → a.getD i 0 = b.getD i 0) (ha : k < a.length) (hb : k < b.length) (hne : a.getD k 0 ≠ b.getD k 0) : sgnI (a.getD k 0 - b.getD k 0) = cmpL a b := by
  rw [cmpL_diff k h ha hb hne]
  unfold sgnI
  (repeat' split) <;> omega
theorem cmpL_sgnEnd {a b : List Int} (k : Nat) (h : ∀ i, i < k → a.getD i 0 = b.getD i 0) (hk : a.length ≤ k ∨ b.length ≤ k) : sgnI ((a.length : Int) - (b.length : Int)) = cmpL a b := by
  rw [cmpL_end (fun i h1 h2 => h i (by omega))]
  unfold sgnI
  (repeat' split) <;> omega
set_option maxHeartbeats 1000000 in
theorem lyCompare_any (v u : Value) (xs ys : List Int) (w : World) (h : Reads w v xs) (h' : Reads w u ys) (hx : smallL xs) (hy : smallL ys) (hlx : xs.length ≤ 1048576) (hly : ys.length ≤ 1048576) :
    Calls Try.prog 82 #[v, u] w fun e w' => e = .returned (.int .i64 (cmpL xs ys)) ∧ Below w.heap.size w w' := by
  obtain ⟨ao, c, rfl, hc1, hm, h⟩ := h.view
  obtain ⟨bo, d, rfl, hd1, hn, h'⟩ := h'.view
  have HSX := hid hx
  have HSY := hid hy
  by_cases hemp : xs = [] ∨ ys = []
  · have HF := hid (cmpL_sgnEnd (a := xs) (b := ys) 0 (fun i hi => by omega) (by rcases hemp with e | e <;> subst e <;> simp))
    have hz : ¬ (0 < xs.length ∧ 0 < ys.length) := by rcases hemp with e | e <;> subst e <;> simp
    clear h h' hx hy hemp
    by_cases h0 : 0 < xs.length
    · have hy0 : ys.length = 0 := by omega
      have q1 : (0 : Int) < (xs.length : Int) := by omega
      have q2 : (ys.length : Int) = 0 := by omega
      go_enter Try.func82, Try.ntmps82
      go_wp2_with fail
      refine wp_loop_rounds 1 ?_
      rw [rounds_succ]
      go_wp2_with (first | (go_at_call 86; (refine (l1Sign_any _ _).mono ?_); (rintro e w' ⟨rfl, rfl⟩)) | fail)
      go_ret
      exact ⟨ret_int (by rw [← HF.out]; simp [q2]), Below.refl _ _⟩
    · have q1 : (xs.length : Int) = 0 := by omega
      go_enter Try.func82, Try.ntmps82
      go_wp2_with fail
      refine wp_loop_rounds 1 ?_
      rw [rounds_succ]
      go_wp2_with (first | (go_at_call 86; (refine (l1Sign_any _ _).mono ?_); (rintro e w' ⟨rfl, rfl⟩)) | fail)
      go_ret
      exact ⟨ret_int (by rw [← HF.out]; simp [q1]), Below.refl _ _⟩
  · obtain ⟨b, off, rfl, hb, hc⟩ := h.resolve_left (fun e => hemp (.inl e))
    obtain ⟨b', off', rfl, hb', hc'⟩ := h'.resolve_left (fun e => hemp (.inr e))
    have HC := hid hc
    have HC' := hid hc'
    clear h h' hc hc' hemp hx hy
    go_enter Try.func82, Try.ntmps82
    go_wp2_with fail
    go_loopw [5] (fun i wr => ∃ k : Nat, i = .int .i64 k ∧ k ≤ xs.length ∧ k ≤ ys.length ∧ (∀ i, i < k → xs.getD i 0 = ys.getD i 0) ∧ ∃ q, wr = w.drewN q) (fun i _ => xs.length - (intOf i).toNat)
    case atStart => exact ⟨0, rfl, Nat.zero_le _, Nat.zero_le _, fun i hi => by omega, 0, rfl⟩
    case round =>
      obtain ⟨k, rfl, hk, hk', heq, q, hq⟩ := hrel
      have HQ := hid (show Below w.heap.size w wr by rw [hq]; exact below_drewN (Below.refl _ _) q)
      have HQ0 := hid hq
      have HE := hid heq
      clear heq hq
      by_cases hlt : k < xs.length
      · by_cases hlt' : k < ys.length
        · have hcx : wr.cell? ⟨b, off + k, none⟩ = some (.int .i64 (xs.getD k 0)) := by rw [getD_at hlt]; exact (HQ.out.cell (p := ⟨b, off + k, none⟩) (by exact hb)).trans (HC.out k hlt)
          have hcy : wr.cell? ⟨b', off' + k, none⟩ = some (.int .i64 (ys.getD k 0)) := by rw [getD_at hlt']; exact (HQ.out.cell (p := ⟨b', off' + k, none⟩) (by exact hb')).trans (HC'.out k hlt')
          have hsx := HSX.out k hlt
          have hsy := HSY.out k hlt'
          have HD := hid (fun hne => cmpL_sgn k HE.out hlt hlt' hne)
          have HES := hid (fun (e : xs.getD k 0 = ys.getD k 0) => show ∀ i, i < k + 1 → xs.getD i 0 = ys.getD i 0 from fun i hi => by
            by_cases h1 : i = k
            · rw [h1]; exact e
            · exact HE.out i (by omega))
          obtain ⟨x, hx⟩ : ∃ x, x = xs.getD k 0 := ⟨_, rfl⟩
          obtain ⟨y, hy⟩ : ∃ y, y = ys.getD k 0 := ⟨_, rfl⟩
          rw [← hx, ← hy] at HD HES
          rw [← hx] at hcx hsx
          rw [← hy] at hcy hsy
          have hk0 : (0 : Int) ≤ (k : Int) := by omega
          have hk1 : (k : Int) < (xs.length : Int) := by omega
          have hk2 : (k : Int) < (ys.length : Int) := by omega
          clear hx hy
          by_cases he : x = y
          · have HES2 := hid (HES.out he)
            have hbb : (x != y) = false := by simp [he]
            clear he
            go_wp2_with fail
            go_quiet (fail)
            go_wp2_with fail
            go_roundw
            case rel => exact ⟨k + 1, by go_num, by omega, by omega, HES2.out, by rw [HQ0.out, World.drewN_drewN]; exact ⟨_, rfl⟩⟩
            case measure => simp [intOf]; omega
          · have HD2 := hid (HD.out he)
            have hbb : (x != y) = true := by simp [he]
            clear he
            go_wp2_with fail
            go_quiet (fail)
            go_wp2_with fail
            generalize hW : wr.drewN _ = W
            have hcxW : W.cell? ⟨b, off + k, none⟩ = some (.int .i64 x) := by rw [← hW]; exact (((below_drewN (Below.refl wr.heap.size wr) _).cell (p := ⟨b, off + k, none⟩) (by exact Nat.lt_of_lt_of_le hb HQ.out.size)).trans hcx)
            have hcyW : W.cell? ⟨b', off' + k, none⟩ = some (.int .i64 y) := by rw [← hW]; exact (((below_drewN (Below.refl wr.heap.size wr) _).cell (p := ⟨b', off' + k, none⟩) (by exact Nat.lt_of_lt_of_le hb' HQ.out.size)).trans hcy)
            have HBW := hid (show Below w.heap.size w W by rw [← hW]; exact below_drewN HQ.out _)
            have hLS := hid (fun (n : Int) (W : World) => (l1Sign_any n W).mono fun _ _ h => (⟨h.1, h.2.symm⟩ : _ ∧ _))
            clear hcx hcy hW
            go_quiet (first | (go_at_call 86; exact Calls.quiet_of_same (hLS.out _ _)) | fail)
            go_wp2_with fail
            go_ret
            exact ⟨ret_int HD2.out, below_drewN HBW.out _⟩
        · have HF := hid (cmpL_sgnEnd (a := xs) (b := ys) k HE.out (by omega))
          go_wp2_with (first | (go_at_call 86; (refine (l1Sign_any _ _).mono ?_); (rintro e w' ⟨rfl, rfl⟩)) | fail)
          go_ret
          exact ⟨ret_int HF.out, HQ.out⟩
      · have HF := hid (cmpL_sgnEnd (a := xs) (b := ys) k HE.out (by omega))
        go_wp2_with (first | (go_at_call 86; (refine (l1Sign_any _ _).mono ?_); (rintro e w' ⟨rfl, rfl⟩)) | fail)
        go_ret
        exact ⟨ret_int HF.out, HQ.out⟩
set_option maxHeartbeats 1000000 in
theorem Compare_any (v u : Value) (xs ys : List Int) (w : World) (h : Reads w v xs) (h' : Reads w u ys) :
    Calls Try.prog 89 #[v, u] w fun e w' => e = .returned (.int .i64 (cmpL xs ys)) ∧ w = w' := by
  obtain ⟨ao, c, rfl, hc1, hm, h⟩ := h.view
  obtain ⟨bo, d, rfl, hd1, hn, h'⟩ := h'.view
  by_cases h0 : xs = []
  · subst h0
    clear h h'
    by_cases hy0 : ys.length = 0
    · have HF := hid (show cmpL [] ys = 0 by rw [List.eq_nil_of_length_eq_zero hy0]; rfl)
      have q2 : (ys.length : Int) = 0 := by omega
      go_enter Try.func89, Try.ntmps89
      go_wp2_with fail
      refine wp_loop_rounds 1 ?_
      rw [rounds_succ]
      go_wp2_with fail
      go_ret
      exact ⟨ret_int HF.out.symm, rfl⟩
    · have HF := hid (show cmpL [] ys = -1 by
        cases ys with
        | nil => simp at hy0
        | cons y ys => rfl)
      have q2 : 0 < (ys.length : Int) := by omega
      go_enter Try.func89, Try.ntmps89
      go_wp2_with fail
      refine wp_loop_rounds 1 ?_
      rw [rounds_succ]
      go_wp2_with fail
      go_ret
      exact ⟨ret_int HF.out.symm, rfl⟩
  · obtain ⟨b, off, rfl, hb, hc⟩ := h.resolve_left h0
    have HC := hid hc
    have HH := hid h'
    clear h h' hc h0
    go_enter Try.func89, Try.ntmps89
    go_wp2_with fail
    go_loop [5, 6, 7, 8, 11] (fun _ _ _ _ i => ∃ k : Nat, i = .int .i64 k ∧ k ≤ xs.length ∧ k ≤ ys.length ∧ (∀ i, i < k → xs.getD i 0 = ys.getD i 0)) (fun _ _ _ _ i => xs.length - (intOf i).toNat)
    case atStart => exact ⟨0, rfl, Nat.zero_le _, Nat.zero_le _, fun i hi => by omega⟩
    case round =>
      obtain ⟨k, rfl, hk, hk', heq⟩ := hrel
      have HE := hid heq
      clear heq
      by_cases hlt : k < xs.length
      · have hcx := HC.out k hlt
        rw [← getD_at hlt] at hcx
        by_cases hlt' : k < ys.length
        · obtain ⟨b', off', rfl, hb', hc'⟩ := HH.out.resolve_left (fun e => by rw [e] at hlt'; simp at hlt')
          have hcy := hc' k hlt'
          rw [← getD_at hlt'] at hcy
          clear hc'
          by_cases he : xs.getD k 0 = ys.getD k 0
          · have HES := hid (show ∀ i, i < k + 1 → xs.getD i 0 = ys.getD i 0 from fun i hi => by
              by_cases h1 : i = k
              · rw [h1]; exact he
              · exact HE.out i (by omega))
            have HZ := hid (show cmpI (xs.getD k 0) (ys.getD k 0) = 0 by unfold cmpI; rw [if_neg (by omega), if_neg (by omega)])
            obtain ⟨x, hx⟩ : ∃ x, x = xs.getD k 0 := ⟨_, rfl⟩
            obtain ⟨y, hy⟩ : ∃ y, y = ys.getD k 0 := ⟨_, rfl⟩
            rw [← hx, ← hy] at HZ
            rw [← hx] at hcx
            rw [← hy] at hcy
            clear hx hy he
            go_wp2_with (first | (go_at_call 90; (refine (cmpCompare_any _ _ _).mono ?_); (rintro e w' ⟨rfl, rfl⟩); (rw [HZ.out])) | fail)
            go_round
            case rel => exact ⟨k + 1, by go_num, by omega, by omega, HES.out⟩
            case measure => simp [intOf]; omega
          · have HD := hid (cmpL_diff k HE.out hlt hlt' he)
            have HZ := hid (show cmpI (xs.getD k 0) (ys.getD k 0) = cmpL xs ys by rw [HD.out]; unfold cmpI; (repeat' split) <;> omega)
            have HNZ := hid (show cmpL xs ys ≠ 0 by rw [HD.out]; split <;> omega)
            obtain ⟨x, hx⟩ : ∃ x, x = xs.getD k 0 := ⟨_, rfl⟩
            obtain ⟨y, hy⟩ : ∃ y, y = ys.getD k 0 := ⟨_, rfl⟩
            obtain ⟨z, hz⟩ : ∃ z, z = cmpL xs ys := ⟨_, rfl⟩
            rw [← hx, ← hy, ← hz] at HZ
            rw [← hx] at hcx
            rw [← hy] at hcy
            rw [← hz] at HNZ
            have HZE := hid hz
            have hzb : (z != 0) = true := by have := HNZ.out; simpa using this
            clear hx hy he hz
            go_wp2_with (first | (go_at_call 90; (refine (cmpCompare_any _ _ _).mono ?_); (rintro e w' ⟨rfl, rfl⟩); (rw [HZ.out])) | fail)
            go_ret
            exact ⟨ret_int HZE.out, rfl⟩
        · have HF := hid (show cmpL xs ys = 1 by rw [cmpL_end (fun i h1 h2 => HE.out i (by omega)), if_neg (by omega), if_pos (by omega)])
          go_wp2_with fail
          go_ret
          exact ⟨ret_int HF.out.symm, rfl⟩
      · by_cases hlt' : k < ys.length
        · have HF := hid (show cmpL xs ys = -1 by rw [cmpL_end (fun i h1 h2 => HE.out i (by omega)), if_pos (by omega)])
          have q3 : (xs.length : Int) < (ys.length : Int) := by omega
          go_wp2_with fail
          go_ret
          exact ⟨ret_int HF.out.symm, rfl⟩
        · have HF := hid (show cmpL xs ys = 0 by rw [cmpL_end (fun i h1 h2 => HE.out i (by omega)), if_neg (by omega), if_neg (by omega)])
          have q3 : ¬ (xs.length : Int) < (ys.length : Int) := by omega
          go_wp2_with fail
          go_ret
          exact ⟨ret_int HF.out.symm, rfl⟩
theorem isLess_any (v u : Value) (xs ys : List Int) (w : World) (h : Reads w v xs) (h' : Reads w u ys) :
    Calls Try.prog 88 #[v, u] w fun e w' => e = .returned (.bool (lessL xs ys)) ∧ w = w' := by
  have HX := hid h
  have HY := hid h'
  clear h h'
  go_enter Try.func88, Try.ntmps88
  go_wp2_with (first | (go_at_call 89; (refine (Compare_any _ _ xs ys _ HX.out HY.out).mono ?_); (rintro e w' ⟨rfl, rfl⟩)) | fail)
  go_ret
  exact ⟨rfl, rfl⟩
end Go.Proofs.Ytjghjlhjeibfoab
