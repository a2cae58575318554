/- Contracts: impl.BitsOf and impl.FromBits. Conditions: the slice reads as a list. -/
import Derived.Test.YtijjdidljoicfaaI3
namespace Go.Proofs.Ytijjdidljoicfaa
open Go.RowKit
set_option linter.unusedVariables false

set_option maxHeartbeats 1000000 in
theorem impl_BitsOf_any (n : Int) (v : Value) (xs : List Int) (w : World) (_wn : (Lit.int .i64 n).wf = true) (h : Sits w v xs) (hl : xs.length ≤ 1048576) (_hwf : ∀ x ∈ xs, (Lit.int .i64 x).wf = true) :
    Calls Try.prog 43 #[.int .i64 n, v] w fun e w' => ∃ u, e = .returned (.tuple #[u, .bool (combB n xs)]) ∧ Own w' w.heap.size u (boRes n xs) ∧ Below w.heap.size w w' := by
  have HS := hid h
  have HV := hid h.reads
  obtain ⟨g0, o0, c0, rfl, _, _, _, _⟩ := h
  cases hc : combB n xs with
  | true =>
    obtain ⟨h1, h2, h3, h4⟩ := combB_elem hc
    have HR := hid (show boRes n xs = bitsL n.toNat xs by rw [boRes, if_pos hc])
    obtain ⟨N, rfl⟩ : ∃ N : Nat, n = (N : Int) := ⟨n.toNat, by omega⟩
    have HC := hid hc
    have HX := hid h4
    have hN : N ≤ 12 := by omega
    clear hc _wn _hwf h4 h1 h2 h3
    go_enter Try.func43, Try.ntmps43
    go_wp2_with fail
    refine (impl_IsCombination_any _ _ xs _ HV.out).mono ?_
    rintro e W1 ⟨rfl, hq⟩
    rw [HC.out]
    have hb1 := Drew.below hq w.heap.size
    have hs1 := HS.out.below hb1
    obtain ⟨b', off', c', e1, _, _, hbb, hcW⟩ := hs1
    simp only [Value.slice.injEq, Option.some.injEq, Addr.mk.injEq, and_true, true_and] at e1
    obtain ⟨⟨rfl, rfl⟩, rfl⟩ := e1
    have HCW := hid hcW
    have hmk := run_make_ints N (by omega) W1
    have HR0 := hid (World.rowIs_made W1 (.int .i64 0) N 3)
    have HB0 := hid ((Below.refl W1.heap.size W1).alloc (Nat.le_refl _) (.cells (madeCells #[.int .i64 0] N) 3))
    have HB1 := hid hb1
    obtain ⟨wm, hwm⟩ : ∃ wm, wm = W1.alloc (.cells (madeCells #[.int .i64 0] N) 3) := ⟨_, rfl⟩
    rw [← hwm] at hmk HR0 HB0
    have HFIN := hid (show ∀ w', w'.rowIs W1.heap.size 3 N (fun j => .int .i64 (bitAt xs j)) → Own w' w.heap.size (.slice (some ⟨W1.heap.size, 0, none⟩) N N) (bitsL N xs) from fun w' hr =>
      (Own.of_rowIs (hr.congr (fun i hi => by rw [bitsL_getD xs hi])) (bitsL_length N xs) (by unfold maxLen; omega)).mono HB1.out.size)
    clear hwm hcW hq hb1
    go_wp2_with fail
    clear hmk
    go_loopw [8, 17] (fun _ i wr => ∃ k : Nat, k ≤ xs.length ∧ i = .int .i64 k ∧ wr.rowIs W1.heap.size 3 N (fun j => .int .i64 (bitAt (xs.take k) j)) ∧ Below W1.heap.size W1 wr) (fun _ i _ => xs.length - (intOf i).toNat)
    case atStart => exact ⟨0, Nat.zero_le _, rfl, HR0.out.congr (fun i hi => by simp [bitAt, hasB]), HB0.out⟩
    case round =>
      obtain ⟨k, hk, rfl, hrow, hbel⟩ := hrel
      have HR := hid hrow
      have HB := hid hbel
      by_cases hlt : k < xs.length
      · have hcx : wr.cell? ⟨g0, o0 + k, none⟩ = some (.int .i64 xs[k]) := (hbel.cell (by exact hbb)).trans (HCW.out k hlt)
        have hxr := HX.out xs[k] (List.getElem_mem _)
        obtain ⟨q, hq⟩ : ∃ q : Nat, xs[k] = (q : Int) := ⟨xs[k].toNat, by omega⟩
        rw [hq] at hcx hxr
        have hqn : q < N := by omega
        have hcz := hrow.cell hqn
        have hfz := hrow.frozen q
        obtain ⟨zz, hzz⟩ : ∃ zz, wr.cell? ⟨W1.heap.size, q, none⟩ = some zz := ⟨_, hcz⟩
        have HR2 := hid (show (wr.setCell ⟨W1.heap.size, q, none⟩ (.int .i64 1)).rowIs W1.heap.size 3 N (fun j => .int .i64 (bitAt (xs.take (k + 1)) j)) from (hrow.set q (.int .i64 1)).congr (fun j hj => by
          unfold bitAt
          rw [hasB_take_succ xs k hlt, hq]
          by_cases e : j = q
          · subst e; simp
          · rw [if_neg e]
            have : decide ((j : Int) = (q : Int)) = false := decide_eq_false (by omega)
            rw [this, Bool.or_false]))
        have HB2 := hid (hbel.setCell (p := ⟨W1.heap.size, q, none⟩) (Nat.le_refl _) (.int .i64 1))
        clear hcz hrow hbel hq
        go_wp2_with fail
        go_roundw
        case rel => exact ⟨k + 1, by omega, by go_num, HR2.out, HB2.out⟩
        case measure => simp [intOf]; omega
      · obtain rfl : k = xs.length := by omega
        rw [List.take_length] at HR
        clear hrow hbel
        go_wp2_with fail
        go_ret2
        exact ⟨_, rfl, by rw [‹Hid (boRes (N : Int) xs = _)›.out, Int.toNat_natCast]; exact HFIN.out _ HR.out, Below_chain HB1.out HB.out⟩
  | false =>
    have HR := hid (show boRes n xs = [] by rw [boRes, if_neg (by rw [hc]; simp)])
    have HC := hid hc
    clear hc _wn _hwf
    go_enter Try.func43, Try.ntmps43
    go_wp2_with (first | (go_at_call 69; refine (impl_IsCombination_any _ _ xs _ HV.out).mono ?_; rintro e w1 ⟨rfl, hq⟩; rw [HC.out]; have HQ := hid (Drew.below hq w.heap.size); clear hq) | fail)
    go_ret2
    exact ⟨_, rfl, by rw [HR.out]; exact Own.nil _ _, HQ.out⟩
set_option maxHeartbeats 1000000 in
theorem impl_FromBits_any (v : Value) (xs : List Int) (w : World) (h : Sits w v xs) (hl : xs.length ≤ 1048576) (_hwf : ∀ x ∈ xs, (Lit.int .i64 x).wf = true) :
    Calls Try.prog 45 #[v] w fun e w' => ∃ u, e = .returned (.tuple #[u, .bool (isBits xs)]) ∧ Own w' w.heap.size u (fbRes xs) ∧ Below w.heap.size w w' := by
  have HS := hid h
  obtain ⟨i0, hi, hz0, hz1, hz2⟩ := info_parts Try.info3
  obtain ⟨g, off, c, rfl, hc1, hm, hb, hc⟩ := h
  have HC := hid hc
  clear hc _hwf
  cases hi2 : isBits xs with
  | false =>
    have HI := hid hi2
    have HR := hid (show fbRes xs = [] by rw [fbRes, if_neg (by rw [hi2]; simp)])
    clear hi2
    go_enter Try.func45, Try.ntmps45
    go_wp2_with (first | (go_at_call 81; refine (areBits_any _ xs _ HS.out hl).mono ?_; rintro e w1 ⟨rfl, rfl⟩; rw [HI.out]) | fail)
    go_ret2
    exact ⟨_, rfl, by rw [HR.out]; exact Own.nil _ _, Below.refl _ _⟩
  | true =>
    have HI := hid hi2
    have HR := hid (show fbRes xs = fromL xs xs.length by rw [fbRes, if_pos hi2])
    have h12 : xs.length ≤ 12 := by rw [isBits, Bool.and_eq_true, decide_eq_true_eq] at hi2; exact hi2.1
    obtain ⟨wm, hrun, hown0, hgrow0⟩ := run_make_own (P := Try.prog) w w.heap.size 22 3 i0 (.int .i64 0) 1 Try.underlying22 hi hz0 hz1 .i64 .i64 xs.length (by rw [hz2]; omega) (by unfold maxLen; omega) (Nat.le_refl _)
    have HO0 := hid (show Own wm w.heap.size (.slice (some ⟨w.heap.size, 0, none⟩) 0 xs.length) [] from hown0)
    have HB0 := hid (Below.grown (Below.refl w.heap.size w) hgrow0 (Nat.le_refl _) (fun q hq => by cases hq))
    clear hi2 hown0 hgrow0
    go_enter Try.func45, Try.ntmps45
    go_wp2_with (first | (go_at_call 81; refine (areBits_any _ xs _ HS.out hl).mono ?_; rintro e w1 ⟨rfl, rfl⟩; rw [HI.out]) | fail)
    clear hrun
    go_loopw [4, 5, 6, 15] (fun ov _ _ i wr => ∃ k : Nat, k ≤ xs.length ∧ i = .int .i64 k ∧ Own wr w.heap.size ov (fromL xs k) ∧ Below w.heap.size w wr) (fun _ _ _ i _ => xs.length - (intOf i).toNat)
    case atStart => exact ⟨0, Nat.zero_le _, rfl, HO0.out, HB0.out⟩
    case round =>
      obtain ⟨k, hk, rfl, hown, hbel⟩ := hrel
      have HO := hid hown
      have HB := hid hbel
      have hsz := hbel.size
      by_cases hlt : k < xs.length
      · have hcx : wr.cell? ⟨g, off + k, none⟩ = some (.int .i64 xs[k]) := (hbel.cell (by exact hb)).trans (HC.out k hlt)
        have HLN := hid (fromL_len xs k)
        obtain ⟨x, hx⟩ : ∃ x, x = xs[k] := ⟨_, rfl⟩
        rw [← hx] at hcx
        obtain ⟨l, hll⟩ : ∃ l, l = fromL xs k := ⟨_, rfl⟩
        rw [← hll] at HO HLN
        have hln := HLN.out
        cases he : (x == 1) with
        | true =>
          have HN := hid (show fromL xs (k + 1) = l ++ [(k : Int)] by rw [hll]; exact fromL_yes (by rw [getD_at hlt, ← hx]; exact he))
          clear hown hbel hx hll
          go_wp2_with (first
            | (at_builtin; refine wpList_append_own _ rfl _ _ 22 rfl w.heap.size 3 i0 (.int .i64 0) 1 8 Try.underlying22 hi hz0 hz1 hz2 rfl (by decide) _ _ _ rfl (World.ownsRow.alloc HO.out.row _) ⟨wr.heap.size, 0, none⟩ 1 1 [.int .i64 (k : Int)] rfl rfl (fun j y hj => new_cell1 j hj) (ints_one [(k : Int)]) (by unfold maxLen; omega) (by omega) (by simp; omega) ?_; intro v1 w1 hown1 hgrow1 hn1; have HO1 := hid (Own.snoc hown1); have HB1 := hid ((HB.out.alloc hsz (.cells #[.int .i64 (k : Int)] 3)).grown hgrow1 (by simp; omega) (fun q hq => (World.ownsRow.lt HO.out q hq).1)); clear hown1 hgrow1 hn1)
            | fail)
          go_roundw
          case rel => exact ⟨k + 1, by omega, by go_num, by rw [HN.out]; exact HO1.out, HB1.out⟩
          case measure => simp [intOf]; omega
        | false =>
          have HN := hid (show fromL xs (k + 1) = l by rw [hll]; exact fromL_no (by rw [getD_at hlt, ← hx]; exact he))
          clear hown hbel hx hll
          go_wp2_with fail
          go_roundw
          case rel => exact ⟨k + 1, by omega, by go_num, by rw [HN.out]; exact HO.out, HB.out⟩
          case measure => simp [intOf]; omega
      · obtain rfl : k = xs.length := by omega
        clear hown hbel
        go_wp2_with fail
        go_ret2
        exact ⟨_, rfl, by rw [HR.out]; exact HO.out, HB.out⟩
end Go.Proofs.Ytijjdidljoicfaa
