/- Contracts on words: lyWord, IsWord, rotations (lyRotate, around, rotated), the order of words (lyCompare, slices.Compare, isLess). Conditions: slices that read as lists of at most 2^20 numbers; letters in 0..5 where the model takes a difference. -/
import Derived.Test.YteimfdpkodcfbaaLyM
import Derived.Test.YteimfdpkodcfbaaEqI
import Derived.Test.YteimfdpkodcfbaaBs3
import Derived.Test.YteimfdpkodcfbaaBs2
namespace Go.Proofs.Yteimfdpkodcfbaa
open Go.RowKit
set_option linter.unusedVariables false
set_option maxRecDepth 4000

def smallL (xs : List Int) : Prop := ∀ i, i < xs.length → 0 ≤ xs.getD i 0 ∧ xs.getD i 0 ≤ 5
theorem smallL_ar {xs : List Int} (h : smallL xs) (h1 : 1 ≤ xs.length) (s n : Nat) : smallL (arL xs s n) := by
  intro i hi
  rw [arL_len] at hi
  rw [arL_at hi]
  exact h _ (Nat.mod_lt _ (by omega))
theorem lyW_small {xs : List Int} (h : lyW xs = true) : (1 ≤ xs.length ∧ xs.length ≤ 24) ∧ smallL xs := lyW_iff.1 h
theorem Own.view3 {w : World} {base : Nat} {v : Value} {xs : List Int} (h : Own w base v xs) : ∃ ao c, v = .slice ao xs.length c ∧ c ≤ 9223372036854775807 ∧
    (xs = [] ∨ ∃ g, ao = some ⟨g, 0, none⟩ ∧ base ≤ g ∧ g < w.heap.size ∧ ∀ i (hi : i < xs.length), w.cell? ⟨g, i, none⟩ = some (.int .i64 xs[i])) := by
  rcases h.form with ⟨rfl, rfl⟩ | ⟨g, cap, rfl, hb, hlt, h1, h2, hc, _⟩
  · exact ⟨none, 0, rfl, by omega, .inl rfl⟩
  · refine ⟨_, cap, rfl, by unfold maxLen at h2; omega, .inr ⟨g, rfl, hb, hlt, fun i hi => ?_⟩⟩
    have := hc i hi
    rwa [Nat.zero_add, getD_at hi] at this
theorem around_any (v : Value) (xs : List Int) (s n : Nat) (w : World) (h : Sits w v xs) (hs : s ≤ 1048576) (hn : n ≤ 1048576) (h1 : 1 ≤ xs.length) (hl : xs.length ≤ 1048576) :
    Calls Try.prog 149 #[v, .int .i64 (s : Int), .int .i64 (n : Int)] w fun e w' => e = .returned (.slice (some ⟨w.heap.size, 0, none⟩) n n) ∧ Own w' w.heap.size (.slice (some ⟨w.heap.size, 0, none⟩) n n) (arL xs s n) ∧ Below w.heap.size w w' := by
  obtain ⟨b, off, c, rfl, hc1, hm, hb, hc⟩ := h
  have HC := hid hc
  clear hc
  have hmk := run_make_ints n hn w
  have HM := hid (rowTo_made (w := w) (arL_len xs s n))
  have HB0 := hid ((Below.refl w.heap.size w).alloc (Nat.le_refl _) (.cells (madeCells #[.int .i64 0] n) 3))
  have HL := hid (arL_len xs s n)
  go_enter Try.func149, Try.ntmps149
  go_wp2_with fail
  clear hmk
  go_loopw [8, 13] (fun _ i wr => ∃ j : Nat, j ≤ n ∧ i = .int .i64 j ∧ wr.rowIs w.heap.size 3 (arL xs s n).length (fun t => .int .i64 (rowTo (arL xs s n) j t)) ∧ Below w.heap.size w wr) (fun _ i _ => n - (intOf i).toNat)
  case atStart => exact ⟨0, Nat.zero_le _, rfl, HM.out, HB0.out⟩
  case round =>
    obtain ⟨j, hj, rfl, hrow, hbel⟩ := hrel
    by_cases hlt : j < n
    · have hf := hrow.frozen j
      obtain ⟨z, hz⟩ : ∃ z, wr.cell? ⟨w.heap.size, j, none⟩ = some z := ⟨_, hrow.cell (by rw [HL.out]; exact hlt)⟩
      obtain ⟨q, hq⟩ : ∃ q, q = (s + j) % xs.length := ⟨_, rfl⟩
      have hq1 : q < xs.length := by rw [hq]; exact Nat.mod_lt _ (by omega)
      have hcx : wr.cell? ⟨b, off + q, none⟩ = some (.int .i64 xs[q]) := (hbel.cell (by exact hb)).trans (HC.out q hq1)
      have u1 : ((s : Int) + (j : Int)) % (xs.length : Int) = (q : Int) := by rw [hq]; simp
      have u2 : ((s : Int) + (j : Int)).tmod (xs.length : Int) = (q : Int) := by rw [Int.tmod_eq_emod_of_nonneg (by omega)]; exact u1
      have u3 : ((xs.length : Int) == 0) = false := beq_eq_false_iff_ne.2 (by omega)
      have u4 : (0 : Int) ≤ (q : Int) := by omega
      have u5 : (q : Int) < (xs.length : Int) := by omega
      have u6 : IntKind.i64.wrap (q : Int) = (q : Int) := IntWalk.i64_in _ (by omega)
      have HD : xs[q] = (arL xs s n).getD j 0 := by rw [arL_at hlt, ← hq, getD_at hq1]
      have HSS := hid (rowTo_set (by rw [HL.out]; exact hlt) HD hrow)
      have HB := hid (hbel.setCell (p := ⟨w.heap.size, j, none⟩) (Nat.le_refl _) (.int .i64 xs[q]))
      clear hrow hbel hq HD
      go_wp2
      go_roundw
      case rel => exact ⟨j + 1, by omega, by go_num, HSS.out, HB.out⟩
      case measure => simp [intOf]; omega
    · obtain rfl : j = n := by omega
      have HR := hid hrow
      clear hrow
      go_wp2
      go_ret
      exact ⟨rfl, rowTo_own HL.out hn HR.out, hbel⟩
theorem rotated_any (v : Value) (xs : List Int) (s : Nat) (w : World) (h : Sits w v xs) (hs : s ≤ 1048576) (h1 : 1 ≤ xs.length) (hl : xs.length ≤ 1048576) :
    Calls Try.prog 113 #[v, .int .i64 (s : Int)] w fun e w' => e = .returned (.slice (some ⟨w.heap.size, 0, none⟩) xs.length xs.length) ∧ Own w' w.heap.size (.slice (some ⟨w.heap.size, 0, none⟩) xs.length xs.length) (arL xs s xs.length) ∧ Below w.heap.size w w' := by
  have HS := hid h
  obtain ⟨b, off, c, rfl, hc1, hm, hb, hc⟩ := h
  clear hc
  go_enter Try.func113, Try.ntmps113
  go_wp2_with (first | (go_at_call 149; (refine (around_any _ xs s xs.length _ HS.out hs hl h1 hl).mono ?_); (rintro e w1 ⟨rfl, ho, hb1⟩); (have HO := hid ho); (have HB := hid hb1); (clear ho hb1)) | fail)
  go_ret
  exact ⟨rfl, HO.out, HB.out⟩
def sgnI (n : Int) : Int := if 0 < n then 1 else if n < 0 then -1 else 0
end Go.Proofs.Yteimfdpkodcfbaa
