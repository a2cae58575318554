/- Contracts of the laws' helpers on slices of ints: toIntS copies, eqIntS compares, markIntS writes k, k + 1, .., heldIntS reads them again. Conditions: the slices read as lists; lengths at most 2^20 where the text adds to a mark. -/
import Derived.Test.YtkphbelgamfmnaaNums
import Derived.Deep.OwnRows
import Derived.Deep.QuietTactic
import Derived.BigQuiet

namespace Go.Proofs.Ytkphbelgamfmnaa
set_option linter.unusedVariables false
open Go.RowKit

theorem Try.info3 : (Try.prog.info? 3).map (fun i => (i.zero, i.size, i.bytes)) = some (some (.int .i64 0), 1, 8) := by kernel_rfl

theorem run_make_ints (n : Nat) (hn : n ≤ 1048576) (w : World) : Sem.run Try.prog (Instr.makeSlice 22 (.int .i64 n) (.int .i64 n)) w = .ok (.slice (some ⟨w.heap.size, 0, none⟩) n n) (w.alloc (.cells (madeCells #[.int .i64 0] n) 3)) :=
  run_make_row' 22 3 (.int .i64 0) 8 Try.underlying22 Try.info3 rfl .i64 .i64 n (by omega) (by omega) w

theorem toIntS_any (v : Value) (xs : List Int) (w : World) (h : Reads w v xs) (hl : xs.length ≤ 1048576) :
    Calls Try.prog 9 #[v] w fun e w' => e = .returned (.slice (some ⟨w.heap.size, 0, none⟩) xs.length xs.length) ∧ Own w' w.heap.size (.slice (some ⟨w.heap.size, 0, none⟩) xs.length xs.length) xs ∧ Below w.heap.size w w' := by
  obtain ⟨ao, c, rfl, hc1, hm, h⟩ := h
  unfold maxLen at hm
  have hmk := run_make_ints xs.length hl w
  have hr0 := World.rowIs_made w (.int .i64 0) xs.length 3
  have hB0 : Below w.heap.size w (w.alloc (.cells (madeCells #[.int .i64 0] xs.length) 3)) := (Below.refl _ _).alloc (Nat.le_refl _) _
  rcases h with h | ⟨b, off, rfl, hb, hc⟩
  · have H := hid h
    clear h
    go_enter Try.func9, Try.ntmps9
    go_wp2
    go_loopw [4] (fun i wr => ∃ k : Nat, k ≤ xs.length ∧ i = .int .i64 k ∧ wr.rowIs w.heap.size 3 xs.length (fun j => .int .i64 (if j < k then xs.getD j 0 else 0)) ∧ Below w.heap.size w wr) (fun i _ => xs.length - (intOf i).toNat)
    case atStart => exact ⟨0, Nat.zero_le _, rfl, World.rowIs.congr hr0 (fun i hi => by simp), hB0⟩
    case round =>
      obtain ⟨k, hk, rfl, hrow, hbel⟩ := hrel
      by_cases hlt : k < xs.length
      · exact absurd hlt (by rw [H.out]; simp)
      · have HR := hid hrow
        clear hrow hr0
        go_wp2
        go_ret
        exact ⟨rfl, Own.of_rowIs (HR.out.congr (fun i hi => by rw [if_pos (by omega)])) rfl (by unfold maxLen; omega), hbel⟩
  · obtain ⟨g, hg⟩ : ∃ g, g = w.heap.size := ⟨_, rfl⟩
    have hbg : b ≠ g := by omega
    go_enter Try.func9, Try.ntmps9
    go_wp2
    go_loopw [4] (fun i wr => ∃ k : Nat, k ≤ xs.length ∧ i = .int .i64 k ∧ wr.rowIs w.heap.size 3 xs.length (fun j => .int .i64 (if j < k then xs.getD j 0 else 0)) ∧ Below w.heap.size w wr) (fun i _ => xs.length - (intOf i).toNat)
    case atStart => exact ⟨0, Nat.zero_le _, rfl, World.rowIs.congr hr0 (fun i hi => by simp), hB0⟩
    case round =>
      obtain ⟨k, hk, rfl, hrow, hbel⟩ := hrel
      by_cases hlt : k < xs.length
      · have hcx : wr.cell? ⟨b, off + k, none⟩ = some (.int .i64 (xs.getD k 0)) := (hbel.cell (by exact hb)).trans (hc k hlt)
        have hf := hrow.frozen k
        have hcc := hrow.cell hlt
        have hs := hrow.set k (.int .i64 xs[k])
        have hbl := hbel.setCell (p := ⟨w.heap.size, k, none⟩) (Nat.le_refl _) (.int .i64 xs[k])
        have HS := hid hs
        have HB := hid hbl
        clear hs hbl hrow hbel hc hr0 hB0
        go_wp2
        go_roundw
        case rel => exact ⟨k + 1, by omega, by go_num, HS.out.congr (fun i hi => by
          by_cases h1 : i = k
          · subst h1; simp [hi]
          · rw [if_neg h1]
            by_cases h2 : i < k
            · rw [if_pos h2, if_pos (by omega)]
            · rw [if_neg h2, if_neg (by omega)]), HB.out⟩
        case measure => simp [intOf]; omega
      · have HR := hid hrow
        clear hrow hr0
        go_wp2
        go_ret
        exact ⟨rfl, Own.of_rowIs (HR.out.congr (fun i hi => by rw [if_pos (by omega)])) rfl (by unfold maxLen; omega), hbel⟩

theorem take_succ_eq {xs ys : List Int} {k : Nat} (hx : k < xs.length) (hy : k < ys.length) (h : xs.take k = ys.take k) (e : xs[k] = ys[k]) : xs.take (k + 1) = ys.take (k + 1) := by
  rw [List.take_succ_eq_append_getElem hx, List.take_succ_eq_append_getElem hy, h, e]

theorem eqIntS_any (v u : Value) (xs ys : List Int) (w : World) (h : Reads w v xs) (h' : Reads w u ys) :
    Calls Try.prog 11 #[v, u] w fun e w' => e = .returned (.bool (decide (xs = ys))) ∧ Below w.heap.size w w' := by
  obtain ⟨ao, c, rfl, hc1, hm, h⟩ := h
  obtain ⟨bo, d, rfl, hd1, hn, h'⟩ := h'
  unfold maxLen at hm hn
  by_cases hl : xs.length = ys.length
  · rcases h with h | ⟨b, off, rfl, hb, hc⟩
    · obtain rfl : ys = [] := List.eq_nil_of_length_eq_zero (by rw [← hl, h]; rfl)
      subst h
      go_enter Try.func11, Try.ntmps11
      go_wp2
      refine wp_loop_rounds 1 ?_
      rw [rounds_succ]
      go_wp2
      go_ret
      exact ⟨by simp, Below.refl _ _⟩
    · rcases h' with h' | ⟨b', off', rfl, hb', hc'⟩
      · obtain rfl : xs = [] := List.eq_nil_of_length_eq_zero (by rw [hl, h']; rfl)
        subst h'
        go_enter Try.func11, Try.ntmps11
        go_wp2
        refine wp_loop_rounds 1 ?_
        rw [rounds_succ]
        go_wp2
        go_ret
        exact ⟨by simp, Below.refl _ _⟩
      · have hne : ((xs.length : Int) != (ys.length : Int)) = false := by simp [hl]
        have HL := hid hl
        have hl1 : xs.length ≤ ys.length := by omega
        have hl2 : ys.length ≤ xs.length := by omega
        clear hl
        go_enter Try.func11, Try.ntmps11
        go_wp2
        go_loopw [5] (fun i wr => ∃ k : Nat, k ≤ xs.length ∧ i = .int .i64 k ∧ xs.take k = ys.take k ∧ Below w.heap.size w wr) (fun i _ => xs.length - (intOf i).toNat)
        case atStart => exact ⟨0, Nat.zero_le _, rfl, rfl, Below.refl _ _⟩
        case round =>
          obtain ⟨k, hk, rfl, htake, hbel⟩ := hrel
          have HT := hid htake
          clear htake
          by_cases hlt : k < xs.length
          · have hlt' : k < ys.length := by omega
            have hcx : wr.cell? ⟨b, off + k, none⟩ = some (.int .i64 xs[k]) := by
              have := (hbel.cell (p := ⟨b, off + k, none⟩) (by exact hb)).trans (hc k hlt)
              simpa [List.getD_eq_getElem?_getD, hlt] using this
            have hcy : wr.cell? ⟨b', off' + k, none⟩ = some (.int .i64 ys[k]) := by
              have := (hbel.cell (p := ⟨b', off' + k, none⟩) (by exact hb')).trans (hc' k hlt')
              simpa [List.getD_eq_getElem?_getD, hlt'] using this
            have hk0 : (0 : Int) ≤ (k : Int) := by omega
            have hk1 : (k : Int) < (xs.length : Int) := by omega
            have hk2 : (k : Int) < (ys.length : Int) := by omega
            clear hc hc'
            by_cases he : xs[k] = ys[k]
            · have hbb : (xs[k] != ys[k]) = false := by simp [he]
              have HE := hid he
              clear he
              go_wp2
              go_quiet (fail)
              go_wp2
              go_roundw
              case rel => exact ⟨k + 1, by omega, by go_num, take_succ_eq hlt hlt' HT.out HE.out, below_drewN hbel _⟩
              case measure => simp [intOf]; omega
            · have hbb : (xs[k] != ys[k]) = true := by simp [he]
              have hfin : decide (xs = ys) = false := by
                apply decide_eq_false
                intro e
                subst e
                exact he rfl
              clear he
              have HF := hid hfin
              clear hfin
              go_wp2
              go_quiet (fail)
              go_wp2
              go_ret
              exact ⟨ret_bool HF.out.symm, below_drewN hbel _⟩
          · go_wp2
            go_ret
            exact ⟨by
              have e : xs = ys := by
                have := HT.out
                rwa [List.take_of_length_le (by omega), List.take_of_length_le (by omega)] at this
              simp [e], hbel⟩
  · have hne : ((xs.length : Int) != (ys.length : Int)) = true := by simp; omega
    have hfin : decide (xs = ys) = false := decide_eq_false (fun e => hl (by rw [e]))
    have HF := hid hfin
    clear h h' hl hfin
    go_enter Try.func11, Try.ntmps11
    go_wp2
    go_ret
    exact ⟨ret_bool HF.out.symm, Below.refl _ _⟩

/-- the marks k, k + 1, .. in n cells -/
def marks (k : Int) (n : Nat) : List Int := (List.range n).map (fun i : Nat => k + (i : Int))
theorem marks_length (k : Int) (n : Nat) : (marks k n).length = n := by simp [marks]
theorem marks_getD (k : Int) (n i : Nat) (h : i < n) : (marks k n).getD i 0 = k + i := by simp [marks, h]

theorem marks_set (m : Int) (xs : List Int) (k : Nat) (h : k < xs.length) : (marks m k ++ xs.drop k).set k (m + k) = marks m (k + 1) ++ xs.drop (k + 1) := by
  have hl := marks_length m k
  rw [List.set_append_right _ _ (by omega), hl, Nat.sub_self, List.drop_eq_getElem_cons h, List.set_cons_zero]
  simp [marks, List.range_succ]

end Go.Proofs.Ytkphbelgamfmnaa
