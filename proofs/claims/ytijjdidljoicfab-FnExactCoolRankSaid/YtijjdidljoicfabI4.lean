/- Contracts: impl.BitsOf and impl.FromBits. Conditions: the slice reads as a list. -/
import Derived.Test.YtijjdidljoicfabI3
namespace Go.Proofs.Ytijjdidljoicfab
open Go.RowKit
set_option linter.unusedVariables false

set_option maxHeartbeats 1000000 in
theorem impl_FromBits_any (v : Value) (xs : List Int) (w : World) (h : Sits w v xs) (hl : xs.length ≤ 1048576) (_hwf : ∀ x ∈ xs, (Lit.int .i64 x).wf = true) :
    Calls Try.prog 42 #[v] w fun e w' => ∃ u, e = .returned (.tuple #[u, .bool (isBits xs)]) ∧ Own w' w.heap.size u (fbRes xs) ∧ Below w.heap.size w w' := by
  have HS := hid h
  obtain ⟨i0, hi, hz0, hz1, hz2⟩ := info_parts Try.info3
  obtain ⟨g, off, c, rfl, hc1, hm, hb, hc⟩ := h
  have HC := hid hc
  clear hc _hwf
  cases hi2 : isBits xs with
  | false =>
    have HI := hid hi2
    have HR := hid (show fbRes xs = [] by rw [fbRes, if_neg (by rw [hi2]; simp)])
    clear hi2
    go_enter Try.func42, Try.ntmps42
    go_wp2_with (first | (go_at_call 76; refine (areBits_any _ xs _ HS.out hl).mono ?_; rintro e w1 ⟨rfl, rfl⟩; rw [HI.out]) | fail)
    go_ret2
    exact ⟨_, rfl, by rw [HR.out]; exact Own.nil _ _, Below.refl _ _⟩
  | true =>
    have HI := hid hi2
    have HR := hid (show fbRes xs = fromL xs xs.length by rw [fbRes, if_pos hi2])
    have h12 : xs.length ≤ 12 := by rw [isBits, Bool.and_eq_true, decide_eq_true_eq] at hi2; exact hi2.1
    obtain ⟨wm, hrun, hown0, hgrow0⟩ := run_make_own (P := Try.prog) w w.heap.size 28 3 i0 (.int .i64 0) 1 Try.underlying28 hi hz0 hz1 .i64 .i64 xs.length (by rw [hz2]; omega) (by unfold maxLen; omega) (Nat.le_refl _)
    have HO0 := hid (show Own wm w.heap.size (.slice (some ⟨w.heap.size, 0, none⟩) 0 xs.length) [] from hown0)
    have HB0 := hid (Below.grown (Below.refl w.heap.size w) hgrow0 (Nat.le_refl _) (fun q hq => by cases hq))
    clear hi2 hown0 hgrow0
    go_enter Try.func42, Try.ntmps42
    go_wp2_with (first | (go_at_call 76; refine (areBits_any _ xs _ HS.out hl).mono ?_; rintro e w1 ⟨rfl, rfl⟩; rw [HI.out]) | fail)
    clear hrun
    go_loopw [4, 5, 6, 15] (fun ov _ _ i wr => ∃ k : Nat, k ≤ xs.length ∧ i = .int .i64 k ∧ Own wr w.heap.size ov (fromL xs k) ∧ Below w.heap.size w wr) (fun _ _ _ i _ => xs.length - (intOf i).toNat)
    case atStart => exact ⟨0, Nat.zero_le _, rfl, HO0.out, HB0.out⟩
    case round =>
      obtain ⟨k, hk, rfl, hown, hbel⟩ := hrel
      have HO := hid hown
      have HB := hid hbel
      have hsz := hbel.size
      by_cases hlt : k < xs.length
      · have hcx : wr.cell? ⟨g, off + k, none⟩ = some (.int .i64 xs[k]) := (hbel.cell (by exact hb)).trans (HC.out k hlt)
        have HLN := hid (fromL_len xs k)
        obtain ⟨x, hx⟩ : ∃ x, x = xs[k] := ⟨_, rfl⟩
        rw [← hx] at hcx
        obtain ⟨l, hll⟩ : ∃ l, l = fromL xs k := ⟨_, rfl⟩
        rw [← hll] at HO HLN
        have hln := HLN.out
        cases he : (x == 1) with
        | true =>
          have HN := hid (show fromL xs (k + 1) = l ++ [(k : Int)] by rw [hll]; exact fromL_yes (by rw [getD_at hlt, ← hx]; exact he))
          clear hown hbel hx hll
          go_wp2_with (first
            | (at_builtin; refine wpList_append_own _ rfl _ _ 28 rfl w.heap.size 3 i0 (.int .i64 0) 1 8 Try.underlying28 hi hz0 hz1 hz2 rfl (by decide) _ _ _ rfl (World.ownsRow.alloc HO.out.row _) ⟨wr.heap.size, 0, none⟩ 1 1 [.int .i64 (k : Int)] rfl rfl (fun j y hj => new_cell1 j hj) (ints_one [(k : Int)]) (by unfold maxLen; omega) (by omega) (by simp; omega) ?_; intro v1 w1 hown1 hgrow1 hn1; have HO1 := hid (Own.snoc hown1); have HB1 := hid ((HB.out.alloc hsz (.cells #[.int .i64 (k : Int)] 3)).grown hgrow1 (by simp; omega) (fun q hq => (World.ownsRow.lt HO.out q hq).1)); clear hown1 hgrow1 hn1)
            | fail)
          go_roundw
          case rel => exact ⟨k + 1, by omega, by go_num, by rw [HN.out]; exact HO1.out, HB1.out⟩
          case measure => simp [intOf]; omega
        | false =>
          have HN := hid (show fromL xs (k + 1) = l by rw [hll]; exact fromL_no (by rw [getD_at hlt, ← hx]; exact he))
          clear hown hbel hx hll
          go_wp2_with fail
          go_roundw
          case rel => exact ⟨k + 1, by omega, by go_num, by rw [HN.out]; exact HO.out, HB.out⟩
          case measure => simp [intOf]; omega
      · obtain rfl : k = xs.length := by omega
        clear hown hbel
        go_wp2_with fail
        go_ret2
        exact ⟨_, rfl, by rw [HR.out]; exact HO.out, HB.out⟩
end Go.Proofs.Ytijjdidljoicfab
