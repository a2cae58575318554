/- Contracts on words: lyWord, IsWord, rotations (lyRotate, around, rotated), the order of words (lyCompare, slices.Compare, isLess). Conditions: slices that read as lists of at most 2^20 numbers; letters in 0..5 where the model takes a difference. -/
import Derived.Test.YtaajfpjekfmddaaLyM
import Derived.Test.YtaajfpjekfmddaaEqI
import Derived.Test.YtaajfpjekfmddaaPush0
import Derived.Test.YtaajfpjekfmddaaBs2
import Derived.Test.YtaajfpjekfmddaaRow
namespace Go.Proofs.Ytaajfpjekfmddaa
open Go.RowKit
set_option linter.unusedVariables false
set_option maxRecDepth 4000

def smallL (xs : List Int) : Prop := ∀ i, i < xs.length → 0 ≤ xs.getD i 0 ∧ xs.getD i 0 ≤ 5
theorem smallL_ar {xs : List Int} (h : smallL xs) (h1 : 1 ≤ xs.length) (s n : Nat) : smallL (arL xs s n) := by
  intro i hi
  rw [arL_len] at hi
  rw [arL_at hi]
  exact h _ (Nat.mod_lt _ (by omega))
theorem lyW_small {xs : List Int} (h : lyW xs = true) : (1 ≤ xs.length ∧ xs.length ≤ 24) ∧ smallL xs := lyW_iff.1 h
theorem Own.view3 {w : World} {base : Nat} {v : Value} {xs : List Int} (h : Own w base v xs) : ∃ ao c, v = .slice ao xs.length c ∧ c ≤ 9223372036854775807 ∧
    (xs = [] ∨ ∃ g, ao = some ⟨g, 0, none⟩ ∧ base ≤ g ∧ g < w.heap.size ∧ ∀ i (hi : i < xs.length), w.cell? ⟨g, i, none⟩ = some (.int .i64 xs[i])) := by
  rcases h.form with ⟨rfl, rfl⟩ | ⟨g, cap, rfl, hb, hlt, h1, h2, hc, _⟩
  · exact ⟨none, 0, rfl, by omega, .inl rfl⟩
  · refine ⟨_, cap, rfl, by unfold maxLen at h2; omega, .inr ⟨g, rfl, hb, hlt, fun i hi => ?_⟩⟩
    have := hc i hi
    rwa [Nat.zero_add, getD_at hi] at this
theorem lyWord_any (v : Value) (xs : List Int) (w : World) (h : Sits w v xs) :
    Calls Try.prog 40 #[v] w fun e w' => e = .returned (.bool (lyW xs)) ∧ w = w' := by
  have HS := hid h
  obtain ⟨b, off, c, rfl, hc1, hm, hb, hc⟩ := h
  clear hc
  have hlen : (xs.length : Int) ≤ 9223372036854775807 := by omega
  by_cases h1 : inB (xs.length : Int) 1 24 = true
  · have HF := hid (show lyW xs = allTo xs.length (fun i => inB (xs.getD i 0) 0 5) by
      have := inB_iff.1 h1
      rw [lyW, decide_eq_true (by omega), decide_eq_true (by omega)]; rfl)
    go_enter Try.func40, Try.ntmps40
    go_wp2_with (first | (go_at_call 58; (refine (l1In_any _ _ _ _).mono ?_); (rintro e w' ⟨rfl, rfl⟩); (rw [h1])) | (go_at_call 78; (refine (l1All_any _ xs _ _ _ HS.out).mono ?_); (rintro e w' ⟨rfl, rfl⟩)) | fail)
    go_ret
    exact ⟨ret_bool HF.out.symm, rfl⟩
  · have h1 : inB (xs.length : Int) 1 24 = false := by simpa using h1
    have HF := hid (show lyW xs = false by
      cases hh : lyW xs with
      | false => rfl
      | true =>
        have := (lyW_iff.1 hh).1
        rw [inB_iff.2 (by omega)] at h1; cases h1)
    go_enter Try.func40, Try.ntmps40
    go_wp2_with (first | (go_at_call 58; (refine (l1In_any _ _ _ _).mono ?_); (rintro e w' ⟨rfl, rfl⟩); (rw [h1])) | fail)
    go_ret
    exact ⟨ret_bool HF.out.symm, rfl⟩
theorem impl_IsWord_any (v : Value) (xs : List Int) (w : World) (h : Reads w v xs) :
    Calls Try.prog 54 #[v] w fun e w' => e = .returned (.bool (lyW xs)) ∧ w = w' := by
  have HS := hid h
  obtain ⟨ao, c, rfl, hc1, hm, h⟩ := h.view
  clear h
  by_cases h1 : 1 ≤ xs.length
  · by_cases h2 : xs.length ≤ 24
    · have HF := hid (show lyW xs = belowB xs 6 by
        rw [lyW, decide_eq_true (by omega), decide_eq_true (by omega)]; rfl)
      have q1 : (1 : Int) ≤ (xs.length : Int) := by omega
      have q2 : (xs.length : Int) ≤ 24 := by omega
      go_enter Try.func54, Try.ntmps54
      go_wp2_with (first | (go_at_call 57; (refine (areBelow_any _ xs _ _ HS.out).mono ?_); (rintro e w' ⟨rfl, rfl⟩)) | fail)
      go_ret
      exact ⟨ret_bool HF.out.symm, rfl⟩
    · have HF := hid (show lyW xs = false by rw [lyW, decide_eq_false h2]; simp)
      have q1 : (1 : Int) ≤ (xs.length : Int) := by omega
      have q2 : ¬ (xs.length : Int) ≤ 24 := by omega
      go_enter Try.func54, Try.ntmps54
      go_wp2_with fail
      go_ret
      exact ⟨ret_bool HF.out.symm, rfl⟩
  · have HF := hid (show lyW xs = false by rw [lyW, decide_eq_false h1]; simp)
    have q1 : ¬ (1 : Int) ≤ (xs.length : Int) := by omega
    go_enter Try.func54, Try.ntmps54
    go_wp2_with fail
    go_ret
    exact ⟨ret_bool HF.out.symm, rfl⟩
theorem lyRotate_any (v : Value) (xs : List Int) (s : Nat) (w : World) (h : Sits w v xs) (hs : s ≤ 1048576) (h1 : 1 ≤ xs.length) (hl : xs.length ≤ 1048576) :
    Calls Try.prog 102 #[v, .int .i64 (s : Int)] w fun e w' => ∃ g c, e = .returned (.slice (some ⟨g, 0, none⟩) xs.length c) ∧ Own w' w.heap.size (.slice (some ⟨g, 0, none⟩) xs.length c) (arL xs s xs.length) ∧ Below w.heap.size w w' := by
  obtain ⟨b, off, c, rfl, hc1, hm, hb, hc⟩ := h
  obtain ⟨i0, hi, hz0, hz1, hz2⟩ := info_parts Try.info3
  have HC := hid hc
  clear hc
  go_enter Try.func102, Try.ntmps102
  go_wp2_with fail
  go_loopw [5, 9] (fun vp i wr => ∃ j : Nat, i = .int .i64 (j : Int) ∧ j ≤ xs.length ∧ Own wr w.heap.size vp (arL xs s j) ∧ Below w.heap.size w wr) (fun _ i _ => xs.length - (intOf i).toNat)
  case atStart => exact ⟨0, rfl, Nat.zero_le _, Own.nil _ _, Below.refl _ _⟩
  case round =>
    obtain ⟨j, rfl, hj, hown, hbel⟩ := hrel
    have HO := hid hown
    have HB := hid hbel
    by_cases hlt : j < xs.length
    · obtain ⟨q, hq⟩ : ∃ q, q = (s + j) % xs.length := ⟨_, rfl⟩
      have hq1 : q < xs.length := by rw [hq]; exact Nat.mod_lt _ (by omega)
      obtain ⟨x, hx⟩ : ∃ x, x = xs[q] := ⟨_, rfl⟩
      have hcx : wr.cell? ⟨b, off + q, none⟩ = some (.int .i64 x) := by rw [hx]; exact (hbel.cell (by exact hb)).trans (HC.out q hq1)
      have u1 : ((j : Int) + (s : Int)) % (xs.length : Int) = (q : Int) := by rw [hq, Nat.add_comm]; simp
      have u2 : ((j : Int) + (s : Int)).tmod (xs.length : Int) = (q : Int) := by rw [Int.tmod_eq_emod_of_nonneg (by omega)]; exact u1
      have u3 : ((xs.length : Int) == 0) = false := beq_eq_false_iff_ne.2 (by omega)
      have u4 : (0 : Int) ≤ (q : Int) := by omega
      have u5 : (q : Int) < (xs.length : Int) := by omega
      have u6 : IntKind.i64.wrap (q : Int) = (q : Int) := IntWalk.i64_in _ (by omega)
      have HD := hid (show arL xs s (j + 1) = arL xs s j ++ [x] by rw [arL_succ, ← hq, getD_at hq1, hx])
      obtain ⟨ao, cc, rfl, hcc, _⟩ := hown.view3
      have HLN := hid (arL_len xs s j)
      rw [HLN.out] at HO ⊢
      have hjb : j ≤ 1048576 := by omega
      clear hown hbel hq hx
      go_wp2_with (first
        | (at_builtin; (refine wpList_push _ rfl _ _ 22 rfl w.heap.size i0 Try.underlying22 hi hz0 hz1 hz2 ao j cc (arL xs s j) rfl HO.out x wr.heap.size rfl rfl hjb HB.out.size ?_); (intro g5 c5 w5 hp5); (have HO5 := hid (show Own w5 w.heap.size (.slice (some ⟨g5, 0, none⟩) (j + 1) c5) (arL xs s (j + 1)) by rw [HD.out]; exact hp5.own)); (have HB5 := hid (hp5.below w rfl HB.out)); (clear hp5))
        | fail)
      go_roundw
      case rel => exact ⟨j + 1, by go_num, by omega, HO5.out, HB5.out⟩
      case measure => simp [intOf]; omega
    · obtain rfl : j = xs.length := by omega
      rcases hown.form with ⟨_, e⟩ | ⟨g, cap, rfl, _⟩
      · have := arL_len xs s xs.length; rw [e] at this; simp at this; omega
      · have HLN := hid (arL_len xs s xs.length)
        rw [HLN.out] at HO ⊢
        clear hown hbel
        go_wp2_with fail
        go_ret
        exact ⟨_, _, rfl, HO.out, HB.out⟩
theorem around_any (v : Value) (xs : List Int) (s n : Nat) (w : World) (h : Sits w v xs) (hs : s ≤ 1048576) (hn : n ≤ 1048576) (h1 : 1 ≤ xs.length) (hl : xs.length ≤ 1048576) :
    Calls Try.prog 52 #[v, .int .i64 (s : Int), .int .i64 (n : Int)] w fun e w' => e = .returned (.slice (some ⟨w.heap.size, 0, none⟩) n n) ∧ Own w' w.heap.size (.slice (some ⟨w.heap.size, 0, none⟩) n n) (arL xs s n) ∧ Below w.heap.size w w' := by
  obtain ⟨b, off, c, rfl, hc1, hm, hb, hc⟩ := h
  have HC := hid hc
  clear hc
  have hmk := run_make_ints n hn w
  have HM := hid (rowTo_made (w := w) (arL_len xs s n))
  have HB0 := hid ((Below.refl w.heap.size w).alloc (Nat.le_refl _) (.cells (madeCells #[.int .i64 0] n) 3))
  have HL := hid (arL_len xs s n)
  go_enter Try.func52, Try.ntmps52
  go_wp2_with fail
  clear hmk
  go_loopw [8, 13] (fun _ i wr => ∃ j : Nat, j ≤ n ∧ i = .int .i64 j ∧ wr.rowIs w.heap.size 3 (arL xs s n).length (fun t => .int .i64 (rowTo (arL xs s n) j t)) ∧ Below w.heap.size w wr) (fun _ i _ => n - (intOf i).toNat)
  case atStart => exact ⟨0, Nat.zero_le _, rfl, HM.out, HB0.out⟩
  case round =>
    obtain ⟨j, hj, rfl, hrow, hbel⟩ := hrel
    by_cases hlt : j < n
    · have hf := hrow.frozen j
      obtain ⟨z, hz⟩ : ∃ z, wr.cell? ⟨w.heap.size, j, none⟩ = some z := ⟨_, hrow.cell (by rw [HL.out]; exact hlt)⟩
      obtain ⟨q, hq⟩ : ∃ q, q = (s + j) % xs.length := ⟨_, rfl⟩
      have hq1 : q < xs.length := by rw [hq]; exact Nat.mod_lt _ (by omega)
      have hcx : wr.cell? ⟨b, off + q, none⟩ = some (.int .i64 xs[q]) := (hbel.cell (by exact hb)).trans (HC.out q hq1)
      have u1 : ((s : Int) + (j : Int)) % (xs.length : Int) = (q : Int) := by rw [hq]; simp
      have u2 : ((s : Int) + (j : Int)).tmod (xs.length : Int) = (q : Int) := by rw [Int.tmod_eq_emod_of_nonneg (by omega)]; exact u1
      have u3 : ((xs.length : Int) == 0) = false := beq_eq_false_iff_ne.2 (by omega)
      have u4 : (0 : Int) ≤ (q : Int) := by omega
      have u5 : (q : Int) < (xs.length : Int) := by omega
      have u6 : IntKind.i64.wrap (q : Int) = (q : Int) := IntWalk.i64_in _ (by omega)
      have HD : xs[q] = (arL xs s n).getD j 0 := by rw [arL_at hlt, ← hq, getD_at hq1]
      have HSS := hid (rowTo_set (by rw [HL.out]; exact hlt) HD hrow)
      have HB := hid (hbel.setCell (p := ⟨w.heap.size, j, none⟩) (Nat.le_refl _) (.int .i64 xs[q]))
      clear hrow hbel hq HD
      go_wp2
      go_roundw
      case rel => exact ⟨j + 1, by omega, by go_num, HSS.out, HB.out⟩
      case measure => simp [intOf]; omega
    · obtain rfl : j = n := by omega
      have HR := hid hrow
      clear hrow
      go_wp2
      go_ret
      exact ⟨rfl, rowTo_own HL.out hn HR.out, hbel⟩
theorem rotated_any (v : Value) (xs : List Int) (s : Nat) (w : World) (h : Sits w v xs) (hs : s ≤ 1048576) (h1 : 1 ≤ xs.length) (hl : xs.length ≤ 1048576) :
    Calls Try.prog 115 #[v, .int .i64 (s : Int)] w fun e w' => e = .returned (.slice (some ⟨w.heap.size, 0, none⟩) xs.length xs.length) ∧ Own w' w.heap.size (.slice (some ⟨w.heap.size, 0, none⟩) xs.length xs.length) (arL xs s xs.length) ∧ Below w.heap.size w w' := by
  have HS := hid h
  obtain ⟨b, off, c, rfl, hc1, hm, hb, hc⟩ := h
  clear hc
  go_enter Try.func115, Try.ntmps115
  go_wp2_with (first | (go_at_call 52; (refine (around_any _ xs s xs.length _ HS.out hs hl h1 hl).mono ?_); (rintro e w1 ⟨rfl, ho, hb1⟩); (have HO := hid ho); (have HB := hid hb1); (clear ho hb1)) | fail)
  go_ret
  exact ⟨rfl, HO.out, HB.out⟩
def sgnI (n : Int) : Int := if 0 < n then 1 else if n < 0 then -1 else 0
theorem l1Sign_any (n : Int) (w : World) :
    Calls Try.prog 118 #[.int .i64 n] w fun e w' => e = .returned (.int .i64 (sgnI n)) ∧ w = w' := by
  by_cases h1 : 0 < n
  · go_enter Try.func118, Try.ntmps118
    go_wp2_with fail
    go_ret
    exact ⟨ret_int (by unfold sgnI; (repeat' split) <;> omega), rfl⟩
  · by_cases h2 : n < 0
    · go_enter Try.func118, Try.ntmps118
      go_wp2_with fail
      go_ret
      exact ⟨ret_int (by unfold sgnI; (repeat' split) <;> omega), rfl⟩
    · go_enter Try.func118, Try.ntmps118
      go_wp2_with fail
      go_ret
      exact ⟨ret_int (by unfold sgnI; (repeat' split) <;> omega), rfl⟩
theorem isNaN_any (n : Int) (w : World) :
    Calls Try.prog 123 #[.int .i64 n] w fun e w' => e = .returned (.bool false) ∧ w = w' := by
  go_enter Try.func123, Try.ntmps123
  go_wp2_with fail
  go_ret
  exact ⟨ret_bool (by simp), rfl⟩
def cmpI (x y : Int) : Int := if x < y then -1 else if y < x then 1 else 0
theorem cmpCompare_any (x y : Int) (w : World) :
    Calls Try.prog 122 #[.int .i64 x, .int .i64 y] w fun e w' => e = .returned (.int .i64 (cmpI x y)) ∧ w = w' := by
  by_cases h1 : x < y
  · go_enter Try.func122, Try.ntmps122
    go_wp2_with (first | (go_at_call 123; (refine (isNaN_any _ _).mono ?_); (rintro e w' ⟨rfl, rfl⟩)) | fail)
    go_ret
    exact ⟨ret_int (by unfold cmpI; (repeat' split) <;> omega), rfl⟩
  · by_cases h2 : y < x
    · go_enter Try.func122, Try.ntmps122
      go_wp2_with (first | (go_at_call 123; (refine (isNaN_any _ _).mono ?_); (rintro e w' ⟨rfl, rfl⟩)) | fail)
      go_ret
      exact ⟨ret_int (by unfold cmpI; (repeat' split) <;> omega), rfl⟩
    · go_enter Try.func122, Try.ntmps122
      go_wp2_with (first | (go_at_call 123; (refine (isNaN_any _ _).mono ?_); (rintro e w' ⟨rfl, rfl⟩)) | fail)
      go_ret
      exact ⟨ret_int (by unfold cmpI; (repeat' split) <;> omega), rfl⟩
end Go.Proofs.Ytaajfpjekfmddaa
