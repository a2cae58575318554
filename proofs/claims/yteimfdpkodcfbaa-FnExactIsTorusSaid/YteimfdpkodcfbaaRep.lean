/- Contracts: slices.Equal, math/bits.Mul at 1, slices.Repeat of one number at most 12 or 24 or 120 times. Conditions: the slices read as lists. -/
import Derived.Test.YteimfdpkodcfbaaBs2
import Derived.Test.YteimfdpkodcfbaaCopy
import Derived.Deep.RegionLaw
namespace Go.Proofs.Yteimfdpkodcfbaa
open Go.RowKit
set_option linter.unusedVariables false
set_option maxRecDepth 4000

theorem Mul64_any (k : Nat) (hk : k ≤ 12 ∨ k = 24 ∨ k = 120) (w : World) : Calls Try.prog 172 #[.int .u64 1, .int .u64 (k : Int)] w fun e w' => e = .returned (.tuple #[.int .u64 0, .int .u64 (k : Int)]) ∧ w = w' := by
  have h : k = 0 ∨ k = 1 ∨ k = 2 ∨ k = 3 ∨ k = 4 ∨ k = 5 ∨ k = 6 ∨ k = 7 ∨ k = 8 ∨ k = 9 ∨ k = 10 ∨ k = 11 ∨ k = 12 ∨ k = 24 ∨ k = 120 := by omega
  clear hk
  rcases h with rfl | rfl | rfl | rfl | rfl | rfl | rfl | rfl | rfl | rfl | rfl | rfl | rfl | rfl | rfl
  all_goals
    go_enter Try.func172, Try.ntmps172
    go_wp2
    go_ret2
    exact ⟨rfl, rfl⟩
theorem Mul_any (k : Nat) (hk : k ≤ 12 ∨ k = 24 ∨ k = 120) (w : World) : Calls Try.prog 159 #[.int .u64 1, .int .u64 (k : Int)] w fun e w' => e = .returned (.tuple #[.int .u64 0, .int .u64 (k : Int)]) ∧ w = w' := by
  have HM := hid (Mul64_any k hk w)
  go_enter Try.func159, Try.ntmps159
  go_wp2_with (first | (go_at_call 172; refine HM.out.mono ?_; rintro e w' ⟨rfl, rfl⟩) | fail)
  go_ret2
  exact ⟨rfl, rfl⟩
/-- the first n of k cells hold x -/
def repC (x : Int) (n k : Nat) : List Value := List.replicate n (.int .i64 x) ++ List.replicate (k - n) (.int .i64 0)
theorem repC_length (x : Int) {n k : Nat} (h : n ≤ k) : (repC x n k).length = k := by simp [repC]; omega
theorem repC_more (x : Int) {n m k : Nat} (h : n + m ≤ k) : splice (repC x n k) n (List.replicate m (.int .i64 x)) = repC x (n + m) k := by
  unfold splice repC
  rw [List.take_left' (by simp), List.drop_append, List.drop_of_length_le (by simp)]
  simp [← List.append_assoc, List.replicate_append_replicate]
  omega
theorem repC_at {x : Int} {n k j : Nat} (h : n ≤ k) (hj : j < n) : (repC x n k)[j]? = some (.int .i64 x) := by
  unfold repC
  rw [List.getElem?_append_left (by simpa using hj), List.getElem?_replicate, if_pos hj]
theorem repC_row {w : World} {x : Int} {g n k : Nat} (h : n ≤ k) (hr : w.heap[g]? = some (.cells (repC x n k).toArray 3 (0, 0))) : w.rowIs g 3 k (fun i => (repC x n k).getD i undef) :=
  ⟨_, hr, by simp [repC_length x h], fun i hi => by
    have : i < (repC x n k).length := by rw [repC_length x h]; exact hi
    simp [List.getD_eq_getElem?_getD, this]⟩
set_option maxHeartbeats 2000000 in
theorem Repeat_any (x : Int) (g k : Nat) (hk4 : k ≤ 12 ∨ k = 24 ∨ k = 120) (w : World) (hc : w.cell? ⟨g, 0, none⟩ = some (.int .i64 x)) (hg : g < w.heap.size) :
    Calls Try.prog 128 #[.slice (some ⟨g, 0, none⟩) 1 1, .int .i64 (k : Int)] w fun e w' => e = .returned (.slice (some ⟨w.heap.size, 0, none⟩) k k) ∧ Own w' w.heap.size (.slice (some ⟨w.heap.size, 0, none⟩) k k) (List.replicate k x) ∧ Below w.heap.size w w' := by
  have hk : k ≤ 120 := by omega
  obtain ⟨i0, hi, hz0, hz1, hz2⟩ := info_parts Try.info3
  have hmk := run_make_ints k (by omega) w
  have HG := hid (show (w.alloc (.cells (madeCells #[.int .i64 0] k) 3)).heap[w.heap.size]? = some (.cells (repC x 0 k).toArray 3 (0, 0)) by
    rw [heap_new, show (repC x 0 k) = (madeCells #[.int .i64 0] k).toList by rw [toList_madeCells_one]; simp [repC], Array.toArray_toList])
  have HB0 := hid ((Below.refl w.heap.size w).alloc (Nat.le_refl _) (.cells (madeCells #[.int .i64 0] k) 3))
  have HSZ := hid (show (Try.prog.info? 3).map (·.size) = some 1 by rw [hi]; simp [hz1])
  have HM := hid (Mul_any k hk4 w)
  clear hk4
  have hwk : IntKind.u64.wrap (k : Int) = (k : Int) := IntWalk.u64_in _ (by omega)
  have hwk2 : IntKind.i64.wrap (k : Int) = (k : Int) := IntWalk.i64_in _ (by omega)
  have hk0 : ¬ (k : Int) < 0 := by omega
  have hk1 : ¬ (9223372036854775807 : Int) < (k : Int) := by omega
  obtain ⟨wm, hwm⟩ : ∃ wm, wm = w.alloc (.cells (madeCells #[.int .i64 0] k) 3) := ⟨_, rfl⟩
  rw [← hwm] at hmk HG HB0
  clear hwm
  go_enter Try.func128, Try.ntmps128
  have hlc : ∀ n : Nat, ∀ v ∈ List.replicate n (Value.int .i64 x), v.oneCell' = true := fun n v hv => by rw [List.eq_of_mem_replicate hv]; rfl
  have HLC := hid hlc
  have hbw : wm.cell? ⟨g, 0, none⟩ = some (.int .i64 x) := (HB0.out.cell (by exact hg)).trans hc
  have HBW := hid hbw
  obtain ⟨m0, hm0⟩ : ∃ m0, m0 = Nat.min 1 k := ⟨_, rfl⟩
  have HN0 := hid (show (List.replicate m0 (Value.int .i64 x)).length = Nat.min 1 k by rw [List.length_replicate, hm0])
  have hm1 : m0 ≤ k := by rw [hm0]; exact Nat.min_le_right _ _
  have hm2 : m0 ≤ 1 := by rw [hm0]; exact Nat.min_le_left _ _
  have hm3 : m0 = 0 → k = 0 := by intro h; rw [hm0] at h; have h2 : min 1 k = 0 := h; omega
  have HSRC := hid (show ∀ (j : Nat) (v : Value), (List.replicate m0 (Value.int .i64 x))[j]? = some v → wm.cell? ((⟨g, 0, none⟩ : Addr).add j) = some v from
    fun j v hj => by
      rw [List.getElem?_replicate] at hj
      split at hj
      · rename_i hj2
        obtain rfl : j = 0 := by omega
        simp at hj
        subst hj
        simpa [Addr.add] using hbw
      · cases hj)
  have HFIT := hid (show 0 + (List.replicate m0 (Value.int .i64 x)).length ≤ (repC x 0 k).length by rw [repC_length x (Nat.zero_le _), List.length_replicate]; omega)
  have HSP0 := hid (show splice (repC x 0 k) 0 (List.replicate m0 (.int .i64 x)) = repC x m0 k by have := repC_more x (n := 0) (m := m0) (k := k) (by omega); simpa using this)
  have HM3 := hid hm3
  clear hlc hbw hm0 hm3
  go_wp2_with (first
    | (go_at_call 159; refine HM.out.mono ?_; rintro e w' ⟨rfl, rfl⟩)
    | (with_reducible refine wpList_copy_splice rfl (.tmp 31) (.tmp 32) 22 22 rfl 3 Try.underlying22 HSZ.out _ _ _ _ _ _ rfl rfl w.heap.size 0 (repC x 0 k) 3 HG.out (List.replicate m0 (.int .i64 x)) HN0.out (fun _ => ⟨rfl, _, rfl, HSRC.out⟩) HFIT.out (HLC.out m0) w.heap.size w HB0.out (Nat.le_refl _) ?_; intro w1 hsp hbel; rw [HSP0.out] at hsp; have HSP := hid hsp.out; have HBEL := hid hbel; clear hbel hsp; rw [List.length_replicate])
    | fail)
  clear hmk
  go_loopw [8] (fun nv wr => ∃ n : Nat, n ≤ k ∧ (n = 0 → k = 0) ∧ nv = .int .i64 (n : Int) ∧ wr.heap[w.heap.size]? = some (.cells (repC x n k).toArray 3 (0, 0)) ∧ Below w.heap.size w wr) (fun nv _ => k - (intOf nv).toNat)
  case atStart => exact ⟨m0, hm1, HM3.out, by first | rfl | simp [goInt], HSP.out, HBEL.out⟩
  case round =>
    obtain ⟨n, hn, hn0, rfl, hrow, hbel⟩ := hrel
    have HROW := hid hrow
    have HB := hid hbel
    have HN0' := hid hn0
    clear hrow hbel hn0
    by_cases hlt : n < k
    · obtain ⟨m, hm⟩ : ∃ m, m = Nat.min n (k - n) := ⟨_, rfl⟩
      have hm1 : m ≤ n := by rw [hm]; exact Nat.min_le_left _ _
      have hm2 : m ≤ k - n := by rw [hm]; exact Nat.min_le_right _ _
      have hm3 : 0 < m := by have := HN0'.out; have h2 : m = min n (k - n) := hm; omega
      have HNM := hid (show (List.replicate m (Value.int .i64 x)).length = Nat.min n (k - n) by rw [List.length_replicate, hm])
      have HSRC2 := hid (show ∀ (j : Nat) (v : Value), (List.replicate m (Value.int .i64 x))[j]? = some v → wr.cell? ((⟨w.heap.size, 0, none⟩ : Addr).add j) = some v from fun j v hj => by
        rw [List.getElem?_replicate] at hj
        split at hj
        · rename_i hj2
          have h1 := (repC_row hn HROW.out).cell (i := j) (by omega)
          rw [List.getD_eq_getElem?_getD, repC_at hn (by omega)] at h1
          rw [← hj, show (⟨w.heap.size, 0, none⟩ : Addr).add j = ⟨w.heap.size, j, none⟩ by by_cases e : j = 0 <;> simp [Addr.add, e]]
          exact h1
        · cases hj)
      have HFIT2 := hid (show n + (List.replicate m (Value.int .i64 x)).length ≤ (repC x n k).length by rw [repC_length x hn, List.length_replicate]; omega)
      have HSP2 := hid (repC_more x (n := n) (m := m) (k := k) (by omega))
      have h1 : (0 : Int) ≤ (n : Int) := by omega
      have h2 : (n : Int) ≤ (k : Int) := by omega
      have h3 : (n : Int) < (k : Int) := by omega
      have h4 : ¬ k = n := by omega
      have HROWD := hid (show wr.drew.heap[w.heap.size]? = some (.cells (repC x n k).toArray 3 (0, 0)) from HROW.out)
      have HSRCD := hid (show ∀ (j : Nat) (v : Value), (List.replicate m (Value.int .i64 x))[j]? = some v → wr.drew.cell? ((⟨w.heap.size, 0, none⟩ : Addr).add j) = some v from HSRC2.out)
      have HBD := hid (HB.out.drew)
      have HNMW := hid (show IntKind.i64.wrap ((n : Int) + (m : Int)) = ((n + m : Nat) : Int) by rw [IntWalk.i64_in _ (by omega)]; omega)
      clear hm
      go_wp2_with fail
      go_region_law
        (first
          | (refine step_copy_splice rfl (.tmp 41) (.tmp 44) 22 22 rfl 3 Try.underlying22 HSZ.out (some ⟨w.heap.size, n, none⟩) (some ⟨w.heap.size, 0, none⟩) (k - n) (k - n) n k (by kernel_rfl) (by kernel_rfl) w.heap.size n (repC x n k) 3 HROWD.out (List.replicate m (.int .i64 x)) HNM.out (fun _ => ⟨rfl, _, rfl, HSRCD.out⟩) HFIT2.out (HLC.out m) w.heap.size w HBD.out (Nat.le_refl _) ?_; intro w2 hsp2 hbel2; rw [HSP2.out] at hsp2; have HSP3 := hid hsp2.out; have HBEL3 := hid hbel2; clear hbel2 hsp2; rw [List.length_replicate])
          | fail)
      all_goals
        simp [Act.put]
        rw [HNMW.out]
        go_wp2_with fail
        go_roundw
        case rel => exact ⟨n + m, by omega, by omega, by first | rfl | go_num, HSP3.out, HBEL3.out⟩
        case measure => simp [intOf] <;> omega
    · obtain rfl : n = k := by omega
      have HO := hid (show Own wr w.heap.size (.slice (some ⟨w.heap.size, 0, none⟩) n n) (List.replicate n x) from
        Own.of_rowIs ((repC_row (Nat.le_refl _) HROW.out).congr (fun i hi => by
          rw [List.getD_eq_getElem?_getD, repC_at (Nat.le_refl _) hi, List.getD_eq_getElem?_getD, List.getElem?_replicate, if_pos hi]; rfl)) (by simp) (by unfold maxLen; omega))
      go_wp2_with fail
      go_ret
      exact ⟨rfl, HO.out, HB.out⟩
end Go.Proofs.Yteimfdpkodcfbaa
