/- Contract: countEach (countBits until cc9ebbb). Conditions: the slice reads as a list of at most 2^20 numbers, all less than n and none below 0. -/
import Derived.Test.YtakelcboamjndabBs1
import Derived.Test.YtakelcboamjndabRow
namespace Go.Proofs.Ytakelcboamjndab
open Go.RowKit
set_option linter.unusedVariables false

/-- how often b is among the first k -/
def cntTo (ds : List Int) (b : Nat) : Nat → Nat
  | 0 => 0
  | k + 1 => cntTo ds b k + if ds.getD k 0 = (b : Int) then 1 else 0
theorem cntTo_le (ds : List Int) (b k : Nat) : cntTo ds b k ≤ k := by
  induction k with
  | zero => exact Nat.le_refl _
  | succ k ih => rw [cntTo]; split <;> omega
def countsL (n : Nat) (ds : List Int) : List Int := (List.range n).map (fun b : Nat => (cntTo ds b ds.length : Int))
theorem countsL_length (n : Nat) (ds : List Int) : (countsL n ds).length = n := by simp [countsL]
theorem countsL_getD {n : Nat} {ds : List Int} {i : Nat} (h : i < n) : (countsL n ds).getD i 0 = cntTo ds i ds.length := by simp [countsL, h]
/-- all are numbers below n -/
def bitsIn (n : Nat) (ds : List Int) : Prop := ∀ i, i < ds.length → ∃ y : Nat, ds.getD i 0 = (y : Int) ∧ y < n
theorem cnt_set {w : World} {g n : Nat} {ds : List Int} {k y : Nat} (hy : ds.getD k 0 = (y : Int)) (h : w.rowIs g 3 n (fun j => .int .i64 (cntTo ds j k : Int))) :
    (w.setCell ⟨g, y, none⟩ (.int .i64 ((cntTo ds y k : Int) + 1))).rowIs g 3 n (fun j => .int .i64 (cntTo ds j (k + 1) : Int)) := by
  refine (h.set y (.int .i64 ((cntTo ds y k : Int) + 1))).congr (fun i hi => ?_)
  by_cases e : i = y
  · subst e
    rw [if_pos rfl, cntTo, if_pos hy]; simp
  · rw [if_neg e, cntTo, if_neg (by rw [hy]; omega)]; simp
theorem cnt_own {w : World} {g n : Nat} {ds : List Int} (hn : n ≤ 1048576) (h : w.rowIs g 3 n (fun j => .int .i64 (cntTo ds j ds.length : Int))) : Own w g (.slice (some ⟨g, 0, none⟩) n n) (countsL n ds) :=
  Own.of_rowIs (h.congr (fun i hi => by rw [countsL_getD hi])) (countsL_length n ds) (by unfold maxLen; omega)
theorem countEach_any (n : Nat) (v : Value) (ds : List Int) (w : World) (h : Reads w v ds) (hn : n ≤ 1048576) (hl : ds.length ≤ 1048576) (hb0 : bitsIn n ds) :
    Calls Try.prog 85 #[.int .i64 (n : Int), v] w fun e w' => ∃ u, e = .returned u ∧ Own w' w.heap.size u (countsL n ds) ∧ Below w.heap.size w w' ∧ u = .slice (some ⟨w.heap.size, 0, none⟩) n n := by
  obtain ⟨ao, c, rfl, hc1, hm, h⟩ := h.view
  have HB := hid hb0
  have hmk := run_make_ints n hn w
  have HM := hid ((World.rowIs_made w (.int .i64 0) n 3).congr (g := fun j => .int .i64 (cntTo ds j 0 : Int)) (fun i hi => by simp [cntTo]))
  have HB0 := hid ((Below.refl w.heap.size w).alloc (Nat.le_refl _) (.cells (madeCells #[.int .i64 0] n) 3))
  clear hb0
  rcases h with h | ⟨b, off, rfl, hb, hc⟩
  · subst h
    go_enter Try.func85, Try.ntmps85
    go_wp2
    clear hmk
    refine wp_loop_rounds 1 ?_
    rw [rounds_succ]
    go_wp2
    go_ret
    exact ⟨_, rfl, cnt_own hn HM.out, HB0.out, rfl⟩
  · have HC := hid hc
    clear hc
    go_enter Try.func85, Try.ntmps85
    go_wp2
    clear hmk
    go_loopw [7, 12] (fun _ i wr => ∃ k : Nat, k ≤ ds.length ∧ i = .int .i64 k ∧ wr.rowIs w.heap.size 3 n (fun j => .int .i64 (cntTo ds j k : Int)) ∧ Below w.heap.size w wr) (fun _ i _ => ds.length - (intOf i).toNat)
    case atStart => exact ⟨0, Nat.zero_le _, rfl, HM.out, HB0.out⟩
    case round =>
      obtain ⟨k, hk, rfl, hrow, hbel⟩ := hrel
      by_cases hlt : k < ds.length
      · obtain ⟨y, hy, hyn⟩ := HB.out k hlt
        have hcx : wr.cell? ⟨b, off + k, none⟩ = some (.int .i64 (y : Int)) := by
          have := (hbel.cell (p := ⟨b, off + k, none⟩) (by exact hb)).trans (HC.out k hlt)
          rwa [← getD_at hlt, hy] at this
        have hcy : wr.cell? ⟨w.heap.size, y, none⟩ = some (.int .i64 (cntTo ds y k : Int)) := hrow.cell hyn
        have hf := hrow.frozen y
        have hle := cntTo_le ds y k
        have HSS := hid (cnt_set hy hrow)
        obtain ⟨q, hq⟩ : ∃ q, q = cntTo ds y k := ⟨_, rfl⟩
        rw [← hq] at hcy hle HSS
        have HBL := hid (hbel.setCell (p := ⟨w.heap.size, y, none⟩) (Nat.le_refl _) (.int .i64 ((q : Int) + 1)))
        have u1 : IntKind.i64.wrap ((q : Int) + 1) = (q : Int) + 1 := IntWalk.i64_in _ (by omega)
        have u2 : (y : Int) < (n : Int) := by omega
        have u3 : (0 : Int) ≤ (y : Int) := by omega
        clear hrow hbel hq hy
        go_wp2
        go_roundw
        case rel => exact ⟨k + 1, by omega, by go_num, HSS.out, HBL.out⟩
        case measure => simp [intOf]; omega
      · obtain rfl : k = ds.length := by omega
        have HR := hid hrow
        clear hrow
        go_wp2
        go_ret
        exact ⟨_, rfl, cnt_own hn HR.out, hbel, rfl⟩
end Go.Proofs.Ytakelcboamjndab
