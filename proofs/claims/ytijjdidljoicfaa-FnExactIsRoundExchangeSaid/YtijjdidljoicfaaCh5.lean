/- Contracts: chBits, spec.BitsOf, chAreBits and spec.FromBits. Conditions: the slice reads as a list of at most 2^20 numbers. -/
import Derived.Test.YtijjdidljoicfaaCh2
import Derived.Test.YtijjdidljoicfaaDig1
namespace Go.Proofs.Ytijjdidljoicfaa
open Go.RowKit
set_option linter.unusedVariables false

/-- the bits of a combination -/
def bitAt (xs : List Int) (i : Nat) : Int := if hasB xs (i : Int) = true then 1 else 0
def bitsL (n : Nat) (xs : List Int) : List Int := (List.range n).map (bitAt xs)
theorem bitsL_length (n : Nat) (xs : List Int) : (bitsL n xs).length = n := by simp [bitsL]
theorem bitsL_getD {n i : Nat} (xs : List Int) (h : i < n) : (bitsL n xs).getD i 0 = bitAt xs i := by simp [bitsL, h]
theorem ret_sb4 {u : Value} {b b' : Bool} (h : b = b') : Ending.returned (.tuple #[u, .bool b]) = .returned (.tuple #[u, .bool b']) := by rw [h]
set_option maxHeartbeats 1000000 in
theorem chBits_any (n : Nat) (v : Value) (xs : List Int) (w : World) (h : Reads w v xs) (hn : n ≤ 1048576) (hx : ∀ x ∈ xs, 0 ≤ x ∧ x < (n : Int)) :
    Calls Try.prog 79 #[.int .i64 (n : Int), v] w fun e w' => e = .returned (.slice (some ⟨w.heap.size, 0, none⟩) n n) ∧ Own w' w.heap.size (.slice (some ⟨w.heap.size, 0, none⟩) n n) (bitsL n xs) ∧ Below w.heap.size w w' := by
  obtain ⟨ao, c, rfl, hc1, hm, h⟩ := h.view
  have hmk := run_make_ints n hn w
  have HR0 := hid (World.rowIs_made w (.int .i64 0) n 3)
  have HB0 := hid ((Below.refl w.heap.size w).alloc (Nat.le_refl _) (.cells (madeCells #[.int .i64 0] n) 3))
  have hS0 : w.heap.size < (w.alloc (.cells (madeCells #[.int .i64 0] n) 3)).heap.size := by simp
  obtain ⟨wm, hwm⟩ : ∃ wm, wm = w.alloc (.cells (madeCells #[.int .i64 0] n) 3) := ⟨_, rfl⟩
  rw [← hwm] at hmk HR0 HB0 hS0
  have HX := hid hx
  have HFIN := hid (show ∀ w', w'.rowIs w.heap.size 3 n (fun j => .int .i64 (bitAt xs j)) → Own w' w.heap.size (.slice (some ⟨w.heap.size, 0, none⟩) n n) (bitsL n xs) from fun w' hr =>
    Own.of_rowIs (hr.congr (fun i hi => by rw [bitsL_getD xs hi])) (bitsL_length n xs) (by unfold maxLen; omega))
  clear hwm hx
  rcases h with h | ⟨g, off, rfl, hb, hc⟩
  · have H := hid h
    have HZ := hid (show ∀ j, bitAt xs j = 0 from fun j => by rw [h]; rfl)
    clear h
    go_enter Try.func79, Try.ntmps79
    go_wp2_with fail
    go_loopw [7, 12] (fun _ i wr => i = .int .i64 0 ∧ wr = wm) (fun _ i _ => xs.length - (intOf i).toNat)
    case atStart => exact ⟨rfl, rfl⟩
    case round =>
      obtain ⟨rfl, rfl⟩ := hrel
      have hlt : ¬ (0 : Int) < (xs.length : Int) := by rw [H.out]; simp
      go_wp2_with fail
      go_ret
      exact ⟨rfl, HFIN.out _ (HR0.out.congr (fun i hi => by rw [HZ.out])), HB0.out⟩
  · have HC := hid hc
    clear hc
    go_enter Try.func79, Try.ntmps79
    go_wp2_with fail
    clear hmk
    go_loopw [7, 12] (fun _ i wr => ∃ k : Nat, k ≤ xs.length ∧ i = .int .i64 k ∧ wr.rowIs w.heap.size 3 n (fun j => .int .i64 (bitAt (xs.take k) j)) ∧ Below w.heap.size w wr) (fun _ i _ => xs.length - (intOf i).toNat)
    case atStart => exact ⟨0, Nat.zero_le _, rfl, HR0.out.congr (fun i hi => by simp [bitAt, hasB]), HB0.out⟩
    case round =>
      obtain ⟨k, hk, rfl, hrow, hbel⟩ := hrel
      have HR := hid hrow
      have HB := hid hbel
      by_cases hlt : k < xs.length
      · have hcx : wr.cell? ⟨g, off + k, none⟩ = some (.int .i64 xs[k]) := (hbel.cell (by exact hb)).trans (HC.out k hlt)
        have hxr := HX.out xs[k] (List.getElem_mem _)
        obtain ⟨q, hq⟩ : ∃ q : Nat, xs[k] = (q : Int) := ⟨xs[k].toNat, by omega⟩
        rw [hq] at hcx hxr
        have hqn : q < n := by omega
        have hcz := hrow.cell hqn
        have hfz := hrow.frozen q
        obtain ⟨zz, hzz⟩ : ∃ zz, wr.cell? ⟨w.heap.size, q, none⟩ = some zz := ⟨_, hcz⟩
        have HR2 := hid (show (wr.setCell ⟨w.heap.size, q, none⟩ (.int .i64 1)).rowIs w.heap.size 3 n (fun j => .int .i64 (bitAt (xs.take (k + 1)) j)) from (hrow.set q (.int .i64 1)).congr (fun j hj => by
          unfold bitAt
          rw [hasB_take_succ xs k hlt, hq]
          by_cases e : j = q
          · subst e; simp
          · rw [if_neg e]
            have : decide ((j : Int) = (q : Int)) = false := decide_eq_false (by omega)
            rw [this, Bool.or_false]))
        have HB2 := hid (hbel.setCell (p := ⟨w.heap.size, q, none⟩) (Nat.le_refl _) (.int .i64 1))
        clear hcz hrow hbel hq
        go_wp2_with fail
        go_roundw
        case rel => exact ⟨k + 1, by omega, by go_num, HR2.out, HB2.out⟩
        case measure => simp [intOf]; omega
      · obtain rfl : k = xs.length := by omega
        rw [List.take_length] at HR
        clear hrow hbel
        go_wp2_with fail
        go_ret
        exact ⟨rfl, HFIN.out _ HR.out, HB.out⟩
def boRes (n : Int) (xs : List Int) : List Int := if combB n xs = true then bitsL n.toNat xs else []
theorem bound_BitsOf (n : Int) (xs : List Int) : (boRes n xs).length ≤ 1048576 := by
  unfold boRes; split
  · rename_i h
    have := combB_elem h
    rw [bitsL_length]; omega
  · simp
theorem spec_BitsOf_any (n : Int) (v : Value) (xs : List Int) (w : World) (_wn : (Lit.int .i64 n).wf = true) (h : Sits w v xs) (hl : xs.length ≤ 1048576) (_hwf : ∀ x ∈ xs, (Lit.int .i64 x).wf = true) :
    Calls Try.prog 42 #[.int .i64 n, v] w fun e w' => ∃ u, e = .returned (.tuple #[u, .bool (combB n xs)]) ∧ Own w' w.heap.size u (boRes n xs) ∧ Below w.heap.size w w' := by
  have HV := hid h.reads
  cases hc : combB n xs with
  | true =>
    obtain ⟨h1, h2, h3, h4⟩ := combB_elem hc
    have HR := hid (show boRes n xs = bitsL n.toNat xs by rw [boRes, if_pos hc])
    obtain ⟨N, rfl⟩ : ∃ N : Nat, n = (N : Int) := ⟨n.toNat, by omega⟩
    have HC := hid hc
    have HX := hid h4
    have hN : N ≤ 1048576 := by omega
    clear hc h _wn _hwf h4
    go_enter Try.func42, Try.ntmps42
    go_wp2_with (first | (go_at_call 67; refine (raCombination_any _ _ xs _ HV.out).mono ?_; rintro e w1 ⟨rfl, rfl⟩; rw [HC.out]) | (go_at_call 79; refine (chBits_any N _ xs _ HV.out hN HX.out).mono ?_; rintro e w1 ⟨rfl, ho1, hb1⟩; have HO1 := hid ho1; have HB1 := hid hb1; clear ho1 hb1) | fail)
    go_ret2
    exact ⟨_, rfl, by rw [HR.out, Int.toNat_natCast]; exact HO1.out, HB1.out⟩
  | false =>
    have HR := hid (show boRes n xs = [] by rw [boRes, if_neg (by rw [hc]; simp)])
    have HC := hid hc
    clear hc h _wn _hwf
    go_enter Try.func42, Try.ntmps42
    go_wp2_with (first | (go_at_call 67; refine (raCombination_any _ _ xs _ HV.out).mono ?_; rintro e w1 ⟨rfl, rfl⟩; rw [HC.out]) | fail)
    go_ret2
    exact ⟨_, rfl, by rw [HR.out]; exact Own.nil _ _, Below.refl _ _⟩
/-- are xs bits -/
def isBits (xs : List Int) : Bool := decide (xs.length ≤ 12) && allTo xs.length (fun i => inB (xs.getD i 0) 0 1)
theorem chAreBits_any (v : Value) (xs : List Int) (w : World) (h : Sits w v xs) : Calls Try.prog 80 #[v] w fun e w' => e = .returned (.bool (isBits xs)) ∧ w = w' := by
  have HS := hid h
  obtain ⟨b, off, c, rfl, hc1, hm, hb, hc⟩ := h
  clear hc
  by_cases h12 : xs.length ≤ 12
  · have HV := hid (show isBits xs = allTo xs.length (fun i => inB (xs.getD i 0) 0 1) by rw [isBits, decide_eq_true h12]; rfl)
    have h12' : (xs.length : Int) ≤ 12 := by omega
    go_enter Try.func80, Try.ntmps80
    go_wp2_with (first | (go_at_call 88; refine (l1All_any _ xs _ _ _ HS.out).mono ?_; rintro e w1 ⟨rfl, rfl⟩) | fail)
    go_ret
    exact ⟨ret_bool HV.out.symm, rfl⟩
  · have HV := hid (show isBits xs = false by rw [isBits, decide_eq_false h12]; rfl)
    have h12' : ¬ (xs.length : Int) ≤ 12 := by omega
    go_enter Try.func80, Try.ntmps80
    go_wp2_with fail
    go_ret
    exact ⟨ret_bool HV.out.symm, rfl⟩
/-- the combination whose bits are given -/
def fromL (xs : List Int) (k : Nat) : List Int := ((List.range k).filter (fun i => xs.getD i 0 == 1)).map (fun i : Nat => (i : Int))
theorem fromL_yes {xs : List Int} {k : Nat} (h : (xs.getD k 0 == 1) = true) : fromL xs (k + 1) = fromL xs k ++ [(k : Int)] := by
  unfold fromL
  rw [List.range_succ, List.filter_append, List.map_append, List.filter_cons_of_pos (by exact h)]
  rfl
theorem fromL_no {xs : List Int} {k : Nat} (h : (xs.getD k 0 == 1) = false) : fromL xs (k + 1) = fromL xs k := by
  unfold fromL
  rw [List.range_succ, List.filter_append, List.map_append, List.filter_cons_of_neg (by simpa using h)]
  simp
theorem fromL_len (xs : List Int) (k : Nat) : (fromL xs k).length ≤ k := by
  unfold fromL
  rw [List.length_map]
  have := List.length_filter_le (fun i => xs.getD i 0 == 1) (List.range k)
  simpa using this
def fbRes (xs : List Int) : List Int := if isBits xs = true then fromL xs xs.length else []
theorem bound_FromBits (xs : List Int) : (fbRes xs).length ≤ 1048576 := by
  unfold fbRes; split
  · rename_i h
    rw [isBits, Bool.and_eq_true, decide_eq_true_eq] at h
    have := fromL_len xs xs.length
    omega
  · simp
set_option maxHeartbeats 1000000 in
theorem spec_FromBits_any (v : Value) (xs : List Int) (w : World) (h : Sits w v xs) (hl : xs.length ≤ 1048576) (_hwf : ∀ x ∈ xs, (Lit.int .i64 x).wf = true) :
    Calls Try.prog 44 #[v] w fun e w' => ∃ u, e = .returned (.tuple #[u, .bool (isBits xs)]) ∧ Own w' w.heap.size u (fbRes xs) ∧ Below w.heap.size w w' := by
  have HS := hid h
  obtain ⟨i0, hi, hz0, hz1, hz2⟩ := info_parts Try.info3
  obtain ⟨g, off, c, rfl, hc1, hm, hb, hc⟩ := h
  have HC := hid hc
  clear hc _hwf
  cases hi2 : isBits xs with
  | false =>
    have HI := hid hi2
    have HR := hid (show fbRes xs = [] by rw [fbRes, if_neg (by rw [hi2]; simp)])
    clear hi2
    go_enter Try.func44, Try.ntmps44
    go_wp2_with (first | (go_at_call 80; refine (chAreBits_any _ xs _ HS.out).mono ?_; rintro e w1 ⟨rfl, rfl⟩; rw [HI.out]) | fail)
    go_ret2
    exact ⟨_, rfl, by rw [HR.out]; exact Own.nil _ _, Below.refl _ _⟩
  | true =>
    have HI := hid hi2
    have HR := hid (show fbRes xs = fromL xs xs.length by rw [fbRes, if_pos hi2])
    have h12 : xs.length ≤ 12 := by rw [isBits, Bool.and_eq_true, decide_eq_true_eq] at hi2; exact hi2.1
    clear hi2
    go_enter Try.func44, Try.ntmps44
    go_wp2_with (first | (go_at_call 80; refine (chAreBits_any _ xs _ HS.out).mono ?_; rintro e w1 ⟨rfl, rfl⟩; rw [HI.out]) | fail)
    go_loopw [4, 5, 6, 12] (fun ov _ _ i wr => ∃ k : Nat, k ≤ xs.length ∧ i = .int .i64 k ∧ Own wr w.heap.size ov (fromL xs k) ∧ Below w.heap.size w wr) (fun _ _ _ i _ => xs.length - (intOf i).toNat)
    case atStart => exact ⟨0, Nat.zero_le _, rfl, Own.nil _ _, Below.refl _ _⟩
    case round =>
      obtain ⟨k, hk, rfl, hown, hbel⟩ := hrel
      have HO := hid hown
      have HB := hid hbel
      have hsz := hbel.size
      by_cases hlt : k < xs.length
      · have hcx : wr.cell? ⟨g, off + k, none⟩ = some (.int .i64 xs[k]) := (hbel.cell (by exact hb)).trans (HC.out k hlt)
        have HLN := hid (fromL_len xs k)
        obtain ⟨x, hx⟩ : ∃ x, x = xs[k] := ⟨_, rfl⟩
        rw [← hx] at hcx
        obtain ⟨l, hll⟩ : ∃ l, l = fromL xs k := ⟨_, rfl⟩
        rw [← hll] at HO HLN
        have hln := HLN.out
        cases he : (x == 1) with
        | true =>
          have HN := hid (show fromL xs (k + 1) = l ++ [(k : Int)] by rw [hll]; exact fromL_yes (by rw [getD_at hlt, ← hx]; exact he))
          clear hown hbel hx hll
          go_wp2_with (first
            | (at_builtin; refine wpList_append_own _ rfl _ _ 22 rfl w.heap.size 3 i0 (.int .i64 0) 1 8 Try.underlying22 hi hz0 hz1 hz2 rfl (by decide) _ _ _ rfl (World.ownsRow.alloc HO.out.row _) ⟨wr.heap.size, 0, none⟩ 1 1 [.int .i64 (k : Int)] rfl rfl (fun j y hj => new_cell1 j hj) (ints_one [(k : Int)]) (by unfold maxLen; omega) (by omega) (by simp; omega) ?_; intro v1 w1 hown1 hgrow1 hn1; have HO1 := hid (Own.snoc hown1); have HB1 := hid ((HB.out.alloc hsz (.cells #[.int .i64 (k : Int)] 3)).grown hgrow1 (by simp; omega) (fun q hq => (World.ownsRow.lt HO.out q hq).1)); clear hown1 hgrow1 hn1)
            | fail)
          go_roundw
          case rel => exact ⟨k + 1, by omega, by go_num, by rw [HN.out]; exact HO1.out, HB1.out⟩
          case measure => simp [intOf]; omega
        | false =>
          have HN := hid (show fromL xs (k + 1) = l by rw [hll]; exact fromL_no (by rw [getD_at hlt, ← hx]; exact he))
          clear hown hbel hx hll
          go_wp2_with fail
          go_roundw
          case rel => exact ⟨k + 1, by omega, by go_num, by rw [HN.out]; exact HO.out, HB.out⟩
          case measure => simp [intOf]; omega
      · obtain rfl : k = xs.length := by omega
        clear hown hbel
        go_wp2_with fail
        go_ret2
        exact ⟨_, rfl, by rw [HR.out]; exact HO.out, HB.out⟩
end Go.Proofs.Ytijjdidljoicfaa
