/- Contract: slices.Equal at ints. Conditions: the slices read as lists. -/
import Derived.Test.YtlkhkecnghpokabBs2
namespace Go.Proofs.Ytlkhkecnghpokab
open Go.RowKit
set_option linter.unusedVariables false

theorem Equal_any (v u : Value) (xs ys : List Int) (w : World) (h : Reads w v xs) (h' : Reads w u ys) :
    Calls Try.prog 109 #[v, u] w fun e w' => e = .returned (.bool (decide (xs = ys))) ∧ Below w.heap.size w w' := by
  obtain ⟨ao, c, rfl, hc1, hm, h⟩ := h
  obtain ⟨bo, d, rfl, hd1, hn, h'⟩ := h'
  unfold maxLen at hm hn
  by_cases hl : xs.length = ys.length
  · rcases h with h | ⟨b, off, rfl, hb, hc⟩
    · obtain rfl : ys = [] := List.eq_nil_of_length_eq_zero (by rw [← hl, h]; rfl)
      subst h
      go_enter Try.func109, Try.ntmps109
      go_wp2
      refine wp_loop_rounds 1 ?_
      rw [rounds_succ]
      go_wp2
      go_ret
      exact ⟨by simp, Below.refl _ _⟩
    · rcases h' with h' | ⟨b', off', rfl, hb', hc'⟩
      · obtain rfl : xs = [] := List.eq_nil_of_length_eq_zero (by rw [hl, h']; rfl)
        subst h'
        go_enter Try.func109, Try.ntmps109
        go_wp2
        refine wp_loop_rounds 1 ?_
        rw [rounds_succ]
        go_wp2
        go_ret
        exact ⟨by simp, Below.refl _ _⟩
      · have hne : ((xs.length : Int) != (ys.length : Int)) = false := by simp [hl]
        have HL := hid hl
        have hl1 : xs.length ≤ ys.length := by omega
        have hl2 : ys.length ≤ xs.length := by omega
        clear hl
        go_enter Try.func109, Try.ntmps109
        go_wp2
        go_loopw [5, 13] (fun _ i wr => ∃ k : Nat, k ≤ xs.length ∧ i = .int .i64 k ∧ xs.take k = ys.take k ∧ Below w.heap.size w wr) (fun _ i _ => xs.length - (intOf i).toNat)
        case atStart => exact ⟨0, Nat.zero_le _, rfl, rfl, Below.refl _ _⟩
        case round =>
          obtain ⟨k, hk, rfl, htake, hbel⟩ := hrel
          have HT := hid htake
          clear htake
          by_cases hlt : k < xs.length
          · have hlt' : k < ys.length := by omega
            have hcx : wr.cell? ⟨b, off + k, none⟩ = some (.int .i64 xs[k]) := by
              have := (hbel.cell (p := ⟨b, off + k, none⟩) (by exact hb)).trans (hc k hlt)
              simpa [List.getD_eq_getElem?_getD, hlt] using this
            have hcy : wr.cell? ⟨b', off' + k, none⟩ = some (.int .i64 ys[k]) := by
              have := (hbel.cell (p := ⟨b', off' + k, none⟩) (by exact hb')).trans (hc' k hlt')
              simpa [List.getD_eq_getElem?_getD, hlt'] using this
            have hk0 : (0 : Int) ≤ (k : Int) := by omega
            have hk1 : (k : Int) < (xs.length : Int) := by omega
            have hk2 : (k : Int) < (ys.length : Int) := by omega
            clear hc hc'
            by_cases he : xs[k] = ys[k]
            · have hbb : (xs[k] != ys[k]) = false := by simp [he]
              have HE := hid he
              clear he
              go_wp2
              go_quiet (fail)
              go_wp2
              go_roundw
              case rel => exact ⟨k + 1, by omega, by go_num, take_succ_eq hlt hlt' HT.out HE.out, below_drewN hbel _⟩
              case measure => simp [intOf]; omega
            · have hbb : (xs[k] != ys[k]) = true := by simp [he]
              have hfin : decide (xs = ys) = false := by
                apply decide_eq_false
                intro e
                subst e
                exact he rfl
              clear he
              have HF := hid hfin
              clear hfin
              go_wp2
              go_quiet (fail)
              go_wp2
              go_ret
              exact ⟨ret_bool HF.out.symm, below_drewN hbel _⟩
          · have HF : Hid (decide (xs = ys) = true) := by
              show decide (xs = ys) = true
              apply decide_eq_true
              have := HT.out
              rwa [List.take_of_length_le (by omega), List.take_of_length_le (by omega)] at this
            go_wp2
            go_ret
            exact ⟨ret_bool HF.out.symm, hbel⟩
  · have hne : ((xs.length : Int) != (ys.length : Int)) = true := by simp; omega
    have hfin : decide (xs = ys) = false := decide_eq_false (fun e => hl (by rw [e]))
    have HF := hid hfin
    clear h h' hl hfin
    go_enter Try.func109, Try.ntmps109
    go_wp2
    go_ret
    exact ⟨ret_bool HF.out.symm, Below.refl _ _⟩
end Go.Proofs.Ytlkhkecnghpokab
