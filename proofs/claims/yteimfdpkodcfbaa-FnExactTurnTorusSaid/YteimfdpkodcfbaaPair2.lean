/- Contracts: suRound; sizes of pair cycles. Conditions: slices that are not nil and read as lists. -/
import Derived.Test.YteimfdpkodcfbaaPcM
import Derived.Test.YteimfdpkodcfbaaSu1
namespace Go.Proofs.Yteimfdpkodcfbaa
open Go.RowKit
set_option linter.unusedVariables false
set_option maxRecDepth 4000

theorem suRound_any (v : Value) (xs : List Int) (s n : Nat) (w : World) (h : Sits w v xs) (h1 : 1 ≤ xs.length) (hl : xs.length ≤ 1048576) (hs : s ≤ 1048576) (hn : n ≤ 1048576) :
    Calls Try.prog 94 #[v, .int .i64 (s : Int), .int .i64 (n : Int)] w fun e w' => ∃ u, e = .returned u ∧ Own w' w.heap.size u (arL xs s n) ∧ Below w.heap.size w w' := by
  have HS := hid h
  obtain ⟨b, off, c, rfl, hc1, hm, hb, hc⟩ := h
  have HC := hid hc
  clear hc
  obtain ⟨i0, hi, hz0, hz1, hz2⟩ := info_parts Try.info3
  go_enter Try.func94, Try.ntmps94
  go_wp2_with fail
  go_loopw [7, 8] (fun vp i wr => ∃ k : Nat, i = .int .i64 (k : Int) ∧ k ≤ n ∧ Own wr w.heap.size vp (arL xs s k) ∧ Below w.heap.size w wr) (fun _ i _ => n - (intOf i).toNat)
  case atStart => exact ⟨0, rfl, Nat.zero_le _, Own.nil _ _, Below.refl _ _⟩
  case round =>
    obtain ⟨k, rfl, hk, hown, hbel⟩ := hrel
    have HO := hid hown
    have HB := hid hbel
    obtain ⟨ao, cc, rfl, _, hcc⟩ := hown.shp9
    rw [arL_len] at HO ⊢
    by_cases hlt : k < n
    · obtain ⟨q, hq⟩ : ∃ q : Nat, q = (s + k) % xs.length := ⟨_, rfl⟩
      have hq1 : q < xs.length := by rw [hq]; exact Nat.mod_lt _ (by omega)
      have hqi : ((s : Int) + (k : Int)) % (xs.length : Int) = (q : Int) := by rw [hq, Int.natCast_emod, Int.natCast_add]
      have hcx : wr.cell? ⟨b, off + q, none⟩ = some (.int .i64 xs[q]) := (hbel.cell (by exact hb)).trans (HC.out q hq1)
      have HX := hid (show arL xs s (k + 1) = arL xs s k ++ [xs[q]] by rw [arL_succ, ← hq, getD_at hq1])
      obtain ⟨x, hx⟩ : ∃ x, x = xs[q] := ⟨_, rfl⟩
      rw [← hx] at hcx HX
      have hk6 : k ≤ 1048576 := by omega
      have hnz : ¬ (xs.length : Int) = 0 := by omega
      clear hown hbel hx hq
      go_wp2_with (first
        | (at_builtin; (refine wpList_push _ rfl _ _ 22 rfl w.heap.size i0 Try.underlying22 hi hz0 hz1 hz2 ao k cc (arL xs s k) rfl HO.out x wr.heap.size rfl rfl hk6 HB.out.size ?_); (intro g5 c5 w5 hp5); (have HO5 := hid (show Own w5 w.heap.size (.slice (some ⟨g5, 0, none⟩) (k + 1) c5) (arL xs s (k + 1)) by rw [HX.out]; exact hp5.own)); (have HB5 := hid (hp5.below w rfl HB.out)); (clear hp5))
        | fail)
      go_roundw
      case rel => exact ⟨k + 1, by go_num, hlt, HO5.out, HB5.out⟩
      case measure => simp [intOf]; omega
    · obtain rfl : k = n := by omega
      clear hown hbel
      go_wp2_with fail
      go_ret
      exact ⟨_, rfl, HO.out, HB.out⟩
theorem suPairSize_any (n : Int) (w : World) : Calls Try.prog 85 #[.int .i64 n] w fun e w' => e = .returned (.bool (inB n 2 11)) ∧ w = w' := by
  go_enter Try.func85, Try.ntmps85
  go_wp2_with (first | (go_at_call 96; (refine (l1In_any _ _ _ _).mono ?_); (rintro e w' ⟨rfl, rfl⟩)) | fail)
  go_ret
  exact ⟨rfl, rfl⟩
theorem isPairSize_any (n : Int) (w : World) : Calls Try.prog 88 #[.int .i64 n] w fun e w' => e = .returned (.bool (inB n 2 11)) ∧ w = w' := by
  by_cases h2 : 2 ≤ n
  · by_cases h1 : n ≤ 11
    · have HB := hid (show inB n 2 11 = true from inB_iff.2 ⟨h2, h1⟩)
      go_enter Try.func88, Try.ntmps88
      go_wp2_with fail
      go_ret
      exact ⟨ret_bool HB.out.symm, rfl⟩
    · have HB := hid (show inB n 2 11 = false by cases h : inB n 2 11 with | false => rfl | true => exact absurd (inB_iff.1 h).2 h1)
      go_enter Try.func88, Try.ntmps88
      go_wp2_with fail
      go_ret
      exact ⟨ret_bool HB.out.symm, rfl⟩
  · have HB := hid (show inB n 2 11 = false by cases h : inB n 2 11 with | false => rfl | true => exact absurd (inB_iff.1 h).1 h2)
    go_enter Try.func88, Try.ntmps88
    go_wp2_with fail
    go_ret
    exact ⟨ret_bool HB.out.symm, rfl⟩
end Go.Proofs.Yteimfdpkodcfbaa
