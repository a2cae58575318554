/- Contracts: slices.Max and slices.Min at ints, picked. Conditions: slices that are not nil, at least one number; places within the word. -/
import Derived.Test.YteimfdpkodcfbaaBs3
namespace Go.Proofs.Yteimfdpkodcfbaa
open Go.RowKit
set_option linter.unusedVariables false
set_option maxRecDepth 4000

/-- the greatest one of the first j + 1 numbers, and the least one -/
def mxT (xs : List Int) : Nat → Int
  | 0 => xs.getD 0 0
  | j + 1 => if mxT xs j < xs.getD (j + 1) 0 then xs.getD (j + 1) 0 else mxT xs j
def mnT (xs : List Int) : Nat → Int
  | 0 => xs.getD 0 0
  | j + 1 => if xs.getD (j + 1) 0 < mnT xs j then xs.getD (j + 1) 0 else mnT xs j
/-- the numbers of a word at some places -/
def pkL (ws ps : List Int) : List Int := ps.map fun p => ws.getD p.toNat 0
theorem pkL_length (ws ps : List Int) : (pkL ws ps).length = ps.length := by simp [pkL]
theorem Max_any (v : Value) (xs : List Int) (w : World) (h : Sits w v xs) (h1 : 1 ≤ xs.length) (hl : xs.length ≤ 1048576) :
    Calls Try.prog 136 #[v] w fun e w' => e = .returned (.int .i64 (mxT xs (xs.length - 1))) ∧ w = w' := by
  obtain ⟨b, off, c, rfl, hc1, hm, hb, hc⟩ := h
  have HC := hid hc
  have hc0 : w.cell? ⟨b, off, none⟩ = some (.int .i64 (xs.getD 0 0)) := by
    have := hc 0 (by omega)
    rw [Nat.add_zero] at this
    rw [this, getD_at (by omega)]
  have q1 : ¬ (xs.length : Int) < 1 := by omega
  have q2 : (0 : Int) < (xs.length : Int) := by omega
  clear hc
  go_enter Try.func136, Try.ntmps136
  go_wp2_with fail
  go_loop [3, 4] (fun m i => ∃ j : Nat, i = .int .i64 ((j : Int) + 1) ∧ j + 1 ≤ xs.length ∧ m = .int .i64 (mxT xs j)) (fun _ i => xs.length - (intOf i).toNat)
  case atStart => exact ⟨0, rfl, h1, rfl⟩
  case round =>
    obtain ⟨j, rfl, hj, rfl⟩ := hrel
    by_cases hlt : j + 1 < xs.length
    · have hcx : w.cell? ⟨b, off + (j + 1), none⟩ = some (.int .i64 (xs.getD (j + 1) 0)) := by rw [HC.out (j + 1) hlt, getD_at hlt]
      have HN := hid (show mxT xs (j + 1) = if mxT xs j < xs.getD (j + 1) 0 then xs.getD (j + 1) 0 else mxT xs j from rfl)
      obtain ⟨x, hx⟩ : ∃ x, x = xs.getD (j + 1) 0 := ⟨_, rfl⟩
      rw [← hx] at hcx HN
      clear hx
      go_wp2_with fail
      go_round
      case rel => exact ⟨j + 1, by go_num, hlt, by rw [HN.out]⟩
      case measure => simp [intOf]; omega
    · have HJ := hid (show xs.length - 1 = j by omega)
      go_wp2_with fail
      go_ret
      exact ⟨ret_int (by rw [HJ.out]), rfl⟩
theorem Min_any (v : Value) (xs : List Int) (w : World) (h : Sits w v xs) (h1 : 1 ≤ xs.length) (hl : xs.length ≤ 1048576) :
    Calls Try.prog 135 #[v] w fun e w' => e = .returned (.int .i64 (mnT xs (xs.length - 1))) ∧ w = w' := by
  obtain ⟨b, off, c, rfl, hc1, hm, hb, hc⟩ := h
  have HC := hid hc
  have hc0 : w.cell? ⟨b, off, none⟩ = some (.int .i64 (xs.getD 0 0)) := by
    have := hc 0 (by omega)
    rw [Nat.add_zero] at this
    rw [this, getD_at (by omega)]
  have q1 : ¬ (xs.length : Int) < 1 := by omega
  have q2 : (0 : Int) < (xs.length : Int) := by omega
  clear hc
  go_enter Try.func135, Try.ntmps135
  go_wp2_with fail
  go_loop [3, 4] (fun m i => ∃ j : Nat, i = .int .i64 ((j : Int) + 1) ∧ j + 1 ≤ xs.length ∧ m = .int .i64 (mnT xs j)) (fun _ i => xs.length - (intOf i).toNat)
  case atStart => exact ⟨0, rfl, h1, rfl⟩
  case round =>
    obtain ⟨j, rfl, hj, rfl⟩ := hrel
    by_cases hlt : j + 1 < xs.length
    · have hcx : w.cell? ⟨b, off + (j + 1), none⟩ = some (.int .i64 (xs.getD (j + 1) 0)) := by rw [HC.out (j + 1) hlt, getD_at hlt]
      have HN := hid (show mnT xs (j + 1) = if xs.getD (j + 1) 0 < mnT xs j then xs.getD (j + 1) 0 else mnT xs j from rfl)
      obtain ⟨x, hx⟩ : ∃ x, x = xs.getD (j + 1) 0 := ⟨_, rfl⟩
      rw [← hx] at hcx HN
      clear hx
      go_wp2_with fail
      go_round
      case rel => exact ⟨j + 1, by go_num, hlt, by rw [HN.out]⟩
      case measure => simp [intOf]; omega
    · have HJ := hid (show xs.length - 1 = j by omega)
      go_wp2_with fail
      go_ret
      exact ⟨ret_int (by rw [HJ.out]), rfl⟩
theorem picked_any (v u : Value) (ws ps : List Int) (w : World) (h : Sits w v ws) (hu : Sits w u ps) (hp : ∀ p ∈ ps, ∃ q : Nat, p = (q : Int) ∧ q < ws.length) (hl : ps.length ≤ 1048576) :
    Calls Try.prog 163 #[v, u] w fun e w' => e = .returned (.slice (some ⟨w.heap.size, 0, none⟩) ps.length ps.length) ∧ Own w' w.heap.size (.slice (some ⟨w.heap.size, 0, none⟩) ps.length ps.length) (pkL ws ps) ∧ Below w.heap.size w w' := by
  obtain ⟨b, off, c, rfl, hc1, hm, hb, hc⟩ := h
  obtain ⟨b2, off2, c2, rfl, hd1, hdm, hb2, hd⟩ := hu
  have HC := hid hc
  have HD := hid hd
  have HP := hid hp
  have hmk := run_make_ints ps.length hl w
  have HM := hid (World.rowIs_made w (.int .i64 0) ps.length 3)
  have HB0 := hid ((Below.refl w.heap.size w).alloc (Nat.le_refl _) (.cells (madeCells #[.int .i64 0] ps.length) 3))
  clear hc hd hp
  go_enter Try.func163, Try.ntmps163
  go_wp2_with fail
  clear hmk
  go_loopw [6, 7, 13] (fun _ _ i wr => ∃ k : Nat, i = .int .i64 (k : Int) ∧ k ≤ ps.length ∧ wr.rowIs w.heap.size 3 ps.length (fun j => .int .i64 (if j < k then (pkL ws ps).getD j 0 else 0)) ∧ Below w.heap.size w wr) (fun _ _ i _ => ps.length - (intOf i).toNat)
  case atStart => exact ⟨0, rfl, Nat.zero_le _, HM.out.congr (fun i hi => by simp), HB0.out⟩
  case round =>
    obtain ⟨k, rfl, hk, hrow, hbel⟩ := hrel
    by_cases hlt : k < ps.length
    · obtain ⟨q, hq1, hq2⟩ := HP.out _ (List.getElem_mem hlt)
      have hcp : wr.cell? ⟨b2, off2 + k, none⟩ = some (.int .i64 (q : Int)) := by rw [← hq1]; exact (hbel.cell (by exact hb2)).trans (HD.out k hlt)
      have hcw : wr.cell? ⟨b, off + q, none⟩ = some (.int .i64 ws[q]) := (hbel.cell (by exact hb)).trans (HC.out q hq2)
      have HG := hid (show (pkL ws ps).getD k 0 = ws[q] by
        rw [getD_at (by rw [pkL_length]; exact hlt)]
        simp only [pkL, List.getElem_map]
        rw [hq1, Int.toNat_natCast, getD_at hq2])
      obtain ⟨x, hx⟩ : ∃ x, x = ws[q] := ⟨_, rfl⟩
      rw [← hx] at hcw HG
      have hf := hrow.frozen k
      have hcc := hrow.cell hlt
      have HS2 := hid (hrow.set k (.int .i64 x))
      have HB2 := hid (hbel.setCell (p := ⟨w.heap.size, k, none⟩) (Nat.le_refl _) (.int .i64 x))
      obtain ⟨z, hz⟩ : ∃ z, wr.cell? ⟨w.heap.size, k, none⟩ = some z := ⟨_, hcc⟩
      clear hrow hbel hx hq1 hcc
      go_wp2_with fail
      go_roundw
      case rel => exact ⟨k + 1, by go_num, hlt, HS2.out.congr (fun i hi => by
        by_cases h1 : i = k
        · subst h1; rw [if_pos rfl, if_pos (by omega), HG.out]
        · rw [if_neg h1]
          by_cases h2 : i < k
          · rw [if_pos h2, if_pos (by omega)]
          · rw [if_neg h2, if_neg (by omega)]), HB2.out⟩
      case measure => simp [intOf]; omega
    · have HOW := hid (Own.of_rowIs (xs := pkL ws ps) (hrow.congr (fun i hi => by rw [if_pos (by omega)])) (pkL_length _ _) (by unfold maxLen; omega))
      have HB1 := hid hbel
      clear hrow hbel
      go_wp2_with fail
      go_ret
      exact ⟨rfl, HOW.out, HB1.out⟩
end Go.Proofs.Yteimfdpkodcfbaa
