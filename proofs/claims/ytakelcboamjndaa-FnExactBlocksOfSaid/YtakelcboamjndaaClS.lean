/- Contract: spCloses, the table of the ways to end a balanced word. Conditions: small numbers. -/
import Derived.Test.YtakelcboamjndaaBalM
import Derived.Test.YtakelcboamjndaaRow
namespace Go.Proofs.Ytakelcboamjndaa
open Go.RowKit Go.Maps
set_option linter.unusedVariables false
set_option maxRecDepth 4000

def tRow (f : Nat → Nat) (m : Nat) : Nat → Nat
  | 0 => if 1 < m then f 1 else 0
  | i + 1 => if i + 2 < m then f (i + 2) + tRow f m i else 0
/-- the table of m numbers behind n rounds -/
def tT (m : Nat) : Nat → Nat → Nat
  | 0 => fun _ => 1
  | n + 1 => tRow (tT m n) m
theorem tT_cl {m : Nat} : ∀ n i, i + n < m → tT m n i = cl n i
  | 0, i, _ => rfl
  | n + 1, 0, h => by
    show tRow (tT m n) m 0 = _
    rw [tRow, if_pos (by omega), cl_first, tT_cl n 1 (by omega)]
  | n + 1, i + 1, h => by
    show tRow (tT m n) m (i + 1) = _
    rw [tRow, if_pos (by omega), cl_next, tT_cl n (i + 2) (by omega), ← tT_cl (m := m) (n + 1) i (by omega)]; rfl
theorem tT_le {m : Nat} : ∀ n i, tT m n i ≤ 2 ^ (2 * n + i)
  | 0, i => by show 1 ≤ _; exact Nat.one_le_two_pow
  | n + 1, 0 => by
    show tRow (tT m n) m 0 ≤ _
    rw [tRow]
    split
    · exact Nat.le_trans (tT_le n 1) (Nat.pow_le_pow_right (by omega) (by omega))
    · exact Nat.zero_le _
  | n + 1, i + 1 => by
    show tRow (tT m n) m (i + 1) ≤ _
    rw [tRow]
    split
    · have h1 := tT_le (m := m) n (i + 2)
      have h2 : tRow (tT m n) m i ≤ _ := tT_le (m := m) (n + 1) i
      have e : 2 ^ (2 * (n + 1) + (i + 1)) = 2 ^ (2 * n + (i + 2)) + 2 ^ (2 * (n + 1) + i) := by
        rw [show 2 * (n + 1) + (i + 1) = (2 * n + (i + 2)) + 1 by omega, show 2 * (n + 1) + i = 2 * n + (i + 2) by omega, Nat.pow_succ]; omega
      omega
    · exact Nat.zero_le _
theorem tT_small {m n i : Nat} (h : 2 * n + i ≤ 60) : tT m n i ≤ 1152921504606846976 := by
  have h1 := tT_le (m := m) n i
  have h2 : 2 ^ (2 * n + i) ≤ 2 ^ 60 := Nat.pow_le_pow_right (by omega) h
  omega
def tL (m n : Nat) : List Int := (List.range m).map fun i => (tT m n i : Int)
theorem tL_length (m n : Nat) : (tL m n).length = m := by simp [tL]
theorem tL_getD {m n i : Nat} (h : i < m) : (tL m n).getD i 0 = (tT m n i : Int) := by simp [tL, List.getD_eq_getElem?_getD, h]
theorem rowTo_set2 {w : World} {g : Nat} {L : List Int} {k : Nat} {c d : Int} (hk : k < L.length) (hd : d = L.getD k 0) (h : w.rowIs g 3 L.length (fun j => .int .i64 (rowTo L k j))) :
    ((w.setCell ⟨g, k, none⟩ (.int .i64 c)).setCell ⟨g, k, none⟩ (.int .i64 d)).rowIs g 3 L.length (fun j => .int .i64 (rowTo L (k + 1) j)) := by
  refine ((h.set k (.int .i64 c)).set k (.int .i64 d)).congr (fun i hi => ?_)
  by_cases e : i = k
  · subst e
    rw [if_pos rfl, rowTo, if_pos (by omega), hd]
  · rw [if_neg e, if_neg e]
    unfold rowTo
    by_cases h1 : i < k
    · rw [if_pos h1, if_pos (by omega)]
    · rw [if_neg h1, if_neg (by omega)]
theorem _root_.Go.World.rowIs.alloc_row {w : World} {g n : Nat} {T : TypeId} {F : Nat → Value} (h : w.rowIs g T n F) (_ : g < w.heap.size) (o : Obj) : (w.alloc o).rowIs g T n F := h.alloc_old o
/-- every number of L stands in the row -/
theorem rowTo_all {w : World} {g m : Nat} {L : List Int} (hm : L.length = m) {k : Nat} (hk : m ≤ k) (h : w.rowIs g 3 L.length (fun j => .int .i64 (rowTo L k j))) : w.rowIs g 3 L.length (fun j => .int .i64 (L.getD j 0)) :=
  h.congr fun i hi => by rw [rowTo, if_pos (by omega)]
theorem spCloses_any (o n : Nat) (w : World) (ho : o + n ≤ 30) (hn : n ≤ 12) :
    Calls Try.prog 75 #[.int .i64 (o : Int), .int .i64 (n : Int)] w fun e w' => e = .returned (.int .i64 (cl n o : Int)) ∧ Below w.heap.size w w' := by
  obtain ⟨m, hm⟩ : ∃ m, m = o + n + 2 := ⟨_, rfl⟩
  have hm1 : m ≤ 1048576 := by omega
  have u1 : IntKind.i64.wrap (IntKind.i64.wrap ((o : Int) + (n : Int)) + 2) = (m : Int) := by rw [IntWalk.i64_in ((o : Int) + (n : Int)) (by omega), IntWalk.i64_in _ (by omega)]; omega
  have u2 : (o : Int) + (n : Int) + 2 = (m : Int) := by omega
  have hmk := run_make_ints m hm1 w
  have HR0 := hid (rowTo_made (w := w) (tL_length m 0))
  have HB0 := hid ((Below.refl w.heap.size w).alloc (Nat.le_refl _) (.cells (madeCells #[.int .i64 0] m) 3))
  have HTL := hid (tL_length m 0)
  have hon : o + n + 2 ≤ m := by omega
  have hm2 : m ≤ 32 := by omega
  clear hm
  go_enter Try.func75, Try.ntmps75
  go_wp2_with fail
  go_loopw [17] (fun i wr => ∃ k : Nat, k ≤ m ∧ i = .int .i64 k ∧ wr.rowIs w.heap.size 3 (tL m 0).length (fun j => .int .i64 (rowTo (tL m 0) k j)) ∧ Below w.heap.size w wr) (fun i _ => m - (intOf i).toNat)
  case atStart => exact ⟨0, Nat.zero_le _, rfl, HR0.out, HB0.out⟩
  case round =>
    obtain ⟨k, hk, rfl, hrow, hbel⟩ := hrel
    by_cases hlt : k < m
    · have hlt' : k < (tL m 0).length := by rw [HTL.out]; exact hlt
      have HN := hid (rowTo_set (d := 1) hlt' (by rw [tL_getD hlt]; rfl) hrow)
      have hc := hrow.cell hlt'
      have hf := hrow.frozen k
      have HB := hid (hbel.setCell (p := ⟨w.heap.size, k, none⟩) (Nat.le_refl _) (.int .i64 1))
      have q1 : (0 : Int) ≤ (k : Int) := by omega
      have q2 : (k : Int) < (m : Int) := by omega
      clear hrow hbel hmk hlt'
      go_wp2_with fail
      go_roundw
      case rel => exact ⟨k + 1, by omega, by go_num, HN.out, HB.out⟩
      case measure => simp [intOf]; omega
    · obtain rfl : k = m := by omega
      have HR := hid (show wr.rowIs w.heap.size 3 (tL k 0).length (fun j => .int .i64 ((tL k 0).getD j 0)) from rowTo_all HTL.out (Nat.le_refl _) hrow)
      have HB := hid hbel
      clear hrow hbel hmk
      obtain ⟨wo, rfl⟩ : ∃ wo : World, wo = wr := ⟨_, rfl⟩
      go_wp2_with fail
      go_loopw [5, 7] (fun t x wr => ∃ g j : Nat, t = .slice (some ⟨g, 0, none⟩) k k ∧ x = .int .i64 ((j + 1 : Nat) : Int) ∧ j ≤ n ∧ w.heap.size ≤ g ∧ g < wr.heap.size ∧ wr.rowIs g 3 k (fun q => .int .i64 (tT k j q : Int)) ∧ Below w.heap.size w wr) (fun _ x _ => n + 1 - (intOf x).toNat)
      case atStart =>
        refine ⟨_, 0, rfl, rfl, Nat.zero_le _, Nat.le_refl _, World.rowIs.lt HR.out, ?_, HB.out⟩
        have h := HR.out
        rw [HTL.out] at h
        exact h.congr (fun i hi => by rw [tL_getD hi])
      case round =>
        obtain ⟨g, j, rfl, rfl, hj, hg, hgl, hrow, hbel⟩ := hrel
        by_cases hlt2 : j < n
        · have hmk := run_make_ints k hm1 wr
          obtain ⟨gn, hgn'⟩ : ∃ gn, gn = wr.heap.size := ⟨_, rfl⟩
          have HR1 := hid (rowTo_made (w := wr) (tL_length k (j + 1)))
          rw [← hgn'] at HR1
          have HB1 := hid (hbel.alloc hbel.size (.cells (madeCells #[.int .i64 0] k) 3))
          have HRG := hid (hrow.alloc_row hgl (.cells (madeCells #[.int .i64 0] k) 3))
          have HTL1 := hid (tL_length k (j + 1))
          have hgn : g ≠ gn := by omega
          have hgw : w.heap.size ≤ gn := by have := hbel.size; omega
          have q1 : ((j + 1 : Nat) : Int) ≤ (n : Int) := by omega
          have u3 : IntKind.i64.wrap (((j + 1 : Nat) : Int) + 1) = ((j + 1 + 1 : Nat) : Int) := by rw [IntWalk.i64_in _ (by omega)]; omega
          clear hrow hbel
          obtain ⟨wo2, rfl⟩ : ∃ wo : World, wo = wr := ⟨_, rfl⟩
          go_wp2_with fail
          rw [← hgn']
          clear hgn' hmk
          go_loopw [9] (fun x wr => ∃ i : Nat, x = .int .i64 (i : Int) ∧ i + 1 ≤ k ∧ wr.rowIs gn 3 (tL k (j + 1)).length (fun q => .int .i64 (rowTo (tL k (j + 1)) i q)) ∧ wr.rowIs g 3 k (fun q => .int .i64 (tT k j q : Int)) ∧ Below w.heap.size w wr) (fun x _ => k - (intOf x).toNat)
          case atStart => exact ⟨0, rfl, by omega, HR1.out, HRG.out, HB1.out⟩
          case round =>
            obtain ⟨i, rfl, hi, hr1, hr2, hbel⟩ := hrel
            by_cases hlt3 : i + 1 < k
            · have hL : i < (tL k (j + 1)).length := by rw [HTL1.out]; omega
              have c1 := hr1.cell hL
              have f1 := hr1.frozen i
              have c2 := hr2.cell hlt3
              have q1 : (0 : Int) ≤ (i : Int) := by omega
              have q2 : (i : Int) + 1 < (k : Int) := by omega
              have u4 : IntKind.i64.wrap ((i : Int) + 1) = ((i + 1 : Nat) : Int) := by rw [IntWalk.i64_in _ (by omega)]; omega
              have u5 : (i : Int) + 1 = ((i + 1 : Nat) : Int) := by omega
              rcases i with _ | i
              · have HN := hid (rowTo_set (d := (tT k j 1 : Int)) hL (by rw [tL_getD (by omega)]; show _ = ((tRow (tT k j) k 0 : Nat) : Int); rw [tRow, if_pos (by omega)]) hr1)
                have HR2 := hid (rowIs_kept6 hr2 (grownBy_set6 wr gn 0 (.int .i64 (tT k j 1 : Int))) (by simp; exact hgn))
                have HB := hid (hbel.setCell (p := ⟨gn, 0, none⟩) hgw (.int .i64 (tT k j 1 : Int)))
                clear hr1 hr2 hbel hL
                go_wp2_with fail
                go_roundw
                case rel => exact ⟨1, rfl, by omega, HN.out, HR2.out, HB.out⟩
                case measure => simp [intOf]; omega
              · have hi1 : tT k (j + 1) (i + 1) = tT k j (i + 2) + tT k (j + 1) i := by
                  show tRow (tT k j) k (i + 1) = _
                  rw [tRow, if_pos (by omega)]; rfl
                have hb1 := tT_small (m := k) (n := j) (i := i + 2) (by omega)
                have hb2 := tT_small (m := k) (n := j + 1) (i := i) (by omega)
                obtain ⟨p, hp⟩ : ∃ p, p = tT k j (i + 2) := ⟨_, rfl⟩
                obtain ⟨q, hq⟩ : ∃ q, q = tT k (j + 1) i := ⟨_, rfl⟩
                have c2' : wr.cell? ⟨g, i + 1 + 1, none⟩ = some (.int .i64 (p : Int)) := by rw [hp]; exact c2
                have HN := hid (rowTo_set2 (c := (p : Int)) (d := (p : Int) + (q : Int)) hL (by rw [tL_getD (by omega), hi1, hp, hq]; push_cast; rfl) hr1)
                have HR2 := hid (rowIs_kept6 (rowIs_kept6 hr2 (grownBy_set6 wr gn (i + 1) (.int .i64 (p : Int))) (by simp; exact hgn)) (grownBy_set6 _ gn (i + 1) (.int .i64 ((p : Int) + (q : Int)))) (by simp; exact hgn))
                have HB := hid ((hbel.setCell (p := ⟨gn, i + 1, none⟩) hgw (.int .i64 (p : Int))).setCell (p := ⟨gn, i + 1, none⟩) hgw (.int .i64 ((p : Int) + (q : Int))))
                have hs := hr1.set (i + 1) (.int .i64 (p : Int))
                have d1 := hs.cell hL
                have d2 := hs.cell (i := i) (by omega)
                have d3 := hs.frozen (i + 1)
                rw [if_pos rfl] at d1
                rw [if_neg (by omega), rowTo, if_pos (by omega), tL_getD (by omega), ← hq] at d2
                rw [← hp] at hb1
                rw [← hq] at hb2
                have u6 : IntKind.i64.wrap ((p : Int) + (q : Int)) = (p : Int) + (q : Int) := IntWalk.i64_in _ (by omega)
                have u7 : IntKind.i64.wrap (((i + 1 : Nat) : Int) - 1) = (i : Int) := by rw [IntWalk.i64_in _ (by omega)]; omega
                clear hr1 hr2 hbel hL hs hb1 hb2 hi1 c2 hp hq
                go_wp2_with fail
                go_region
                all_goals
                  go_wp2_with fail
                  go_roundw
                  case rel => exact ⟨i + 1 + 1, rfl, by omega, HN.out, HR2.out, HB.out.trans ((Below.refl _ _).drew)⟩
                  case measure => simp [intOf]; omega
            · have HRN := hid (hr1.congr (g := fun q => .int .i64 (tT k (j + 1) q : Int)) (fun q hq => by
                rw [HTL1.out] at hq
                by_cases hqi : q < i
                · rw [rowTo, if_pos hqi, tL_getD hq]
                · have hz : tT k (j + 1) q = 0 := by
                    show tRow (tT k j) k q = 0
                    cases q with
                    | zero => rw [tRow, if_neg (by omega)]
                    | succ q => rw [tRow, if_neg (by omega)]
                  rw [rowTo, if_neg hqi, hz]; rfl))
              have hgl2 := World.rowIs.lt hr1
              have hl1 := HTL1.out
              have HB := hid hbel
              have q3 : ¬ ((i : Int) + 1 < (k : Int)) := by omega
              have u4 : IntKind.i64.wrap ((i : Int) + 1) = ((i + 1 : Nat) : Int) := by rw [IntWalk.i64_in _ (by omega)]; omega
              clear hr1 hr2 hbel hl1
              go_wp2_with fail
              go_roundw
              case rel => exact ⟨gn, j + 1, rfl, rfl, by omega, hgw, hgl2, by have h := HRN.out; rw [HTL1.out] at h; exact h, HB.out⟩
              case measure => simp [intOf]; omega
        · obtain rfl : j = n := by omega
          have hcl := tT_cl (m := k) j o (by omega)
          have hc := hrow.cell (i := o) (by omega)
          rw [hcl] at hc
          have HB := hid hbel
          have q1 : (0 : Int) ≤ (o : Int) := by omega
          have q2 : (o : Int) < (k : Int) := by omega
          clear hrow hbel hcl
          go_wp2_with fail
          go_ret
          exact ⟨rfl, HB.out⟩
end Go.Proofs.Ytakelcboamjndaa
