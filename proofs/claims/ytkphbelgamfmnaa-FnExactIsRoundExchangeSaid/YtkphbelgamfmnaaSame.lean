/- Contracts: l1Same and raPlace. Conditions: the slices read as lists. -/
import Derived.Test.YtkphbelgamfmnaaLists
import Derived.Deep.QuietTactic
import Derived.BigQuiet
namespace Go.Proofs.Ytkphbelgamfmnaa
open Go.RowKit
set_option linter.unusedVariables false

theorem l1Same_any (v u : Value) (xs ys : List Int) (w : World) (h : Reads w v xs) (h' : Reads w u ys) :
    Calls Try.prog 74 #[v, u] w fun e w' => e = .returned (.bool (decide (xs = ys))) ∧ Below w.heap.size w w' := by
  obtain ⟨ao, c, rfl, hc1, hm, h⟩ := h
  obtain ⟨bo, d, rfl, hd1, hn, h'⟩ := h'
  unfold maxLen at hm hn
  by_cases hl : xs.length = ys.length
  · rcases h with h | ⟨b, off, rfl, hb, hc⟩
    · obtain rfl : ys = [] := List.eq_nil_of_length_eq_zero (by rw [← hl, h]; rfl)
      subst h
      go_enter Try.func74, Try.ntmps74
      go_wp2
      refine wp_loop_rounds 1 ?_
      rw [rounds_succ]
      go_wp2
      go_ret
      exact ⟨by simp, Below.refl _ _⟩
    · rcases h' with h' | ⟨b', off', rfl, hb', hc'⟩
      · obtain rfl : xs = [] := List.eq_nil_of_length_eq_zero (by rw [hl, h']; rfl)
        subst h'
        go_enter Try.func74, Try.ntmps74
        go_wp2
        refine wp_loop_rounds 1 ?_
        rw [rounds_succ]
        go_wp2
        go_ret
        exact ⟨by simp, Below.refl _ _⟩
      · have hne : ((xs.length : Int) != (ys.length : Int)) = false := by simp [hl]
        have HL := hid hl
        have hl1 : xs.length ≤ ys.length := by omega
        have hl2 : ys.length ≤ xs.length := by omega
        clear hl
        go_enter Try.func74, Try.ntmps74
        go_wp2
        go_loopw [5, 13] (fun _ i wr => ∃ k : Nat, k ≤ xs.length ∧ i = .int .i64 k ∧ xs.take k = ys.take k ∧ Below w.heap.size w wr) (fun _ i _ => xs.length - (intOf i).toNat)
        case atStart => exact ⟨0, Nat.zero_le _, rfl, rfl, Below.refl _ _⟩
        case round =>
          obtain ⟨k, hk, rfl, htake, hbel⟩ := hrel
          have HT := hid htake
          clear htake
          by_cases hlt : k < xs.length
          · have hlt' : k < ys.length := by omega
            have hcx : wr.cell? ⟨b, off + k, none⟩ = some (.int .i64 xs[k]) := by
              have := (hbel.cell (p := ⟨b, off + k, none⟩) (by exact hb)).trans (hc k hlt)
              simpa [List.getD_eq_getElem?_getD, hlt] using this
            have hcy : wr.cell? ⟨b', off' + k, none⟩ = some (.int .i64 ys[k]) := by
              have := (hbel.cell (p := ⟨b', off' + k, none⟩) (by exact hb')).trans (hc' k hlt')
              simpa [List.getD_eq_getElem?_getD, hlt'] using this
            have hk0 : (0 : Int) ≤ (k : Int) := by omega
            have hk1 : (k : Int) < (xs.length : Int) := by omega
            have hk2 : (k : Int) < (ys.length : Int) := by omega
            clear hc hc'
            by_cases he : xs[k] = ys[k]
            · have hbb : (xs[k] != ys[k]) = false := by simp [he]
              have HE := hid he
              clear he
              go_wp2
              go_quiet (fail)
              go_wp2
              go_roundw
              case rel => exact ⟨k + 1, by omega, by go_num, take_succ_eq hlt hlt' HT.out HE.out, below_drewN hbel _⟩
              case measure => simp [intOf]; omega
            · have hbb : (xs[k] != ys[k]) = true := by simp [he]
              have hfin : decide (xs = ys) = false := by
                apply decide_eq_false
                intro e
                subst e
                exact he rfl
              clear he
              have HF := hid hfin
              clear hfin
              go_wp2
              go_quiet (fail)
              go_wp2
              go_ret
              exact ⟨ret_bool HF.out.symm, below_drewN hbel _⟩
          · have HF : Hid (decide (xs = ys) = true) := by
              show decide (xs = ys) = true
              apply decide_eq_true
              have := HT.out
              rwa [List.take_of_length_le (by omega), List.take_of_length_le (by omega)] at this
            go_wp2
            go_ret
            exact ⟨ret_bool HF.out.symm, hbel⟩
  · have hne : ((xs.length : Int) != (ys.length : Int)) = true := by simp; omega
    have hfin : decide (xs = ys) = false := decide_eq_false (fun e => hl (by rw [e]))
    have HF := hid hfin
    clear h h' hl hfin
    go_enter Try.func74, Try.ntmps74
    go_wp2
    go_ret
    exact ⟨ret_bool HF.out.symm, Below.refl _ _⟩
/-- the index of a list in a list of lists, or -1 -/
def placeIn (l : List Int) : List (List Int) → Int
  | [] => -1
  | x :: r => if x = l then 0 else (if placeIn l r < 0 then -1 else placeIn l r + 1)
theorem placeIn_found (l : List Int) : ∀ (L : List (List Int)) (k : Nat) (h : k < L.length), (∀ j (hj : j < k), L[j] ≠ l) → L[k] = l → placeIn l L = k
  | x :: r, 0, _, _, h => by rw [placeIn, if_pos (by simpa using h)]; rfl
  | x :: r, k + 1, hk, hno, h => by
    have h0 : ¬ x = l := by simpa using hno 0 (by omega)
    have ih := placeIn_found l r k (by simpa using hk) (fun j hj => by simpa using hno (j + 1) (by omega)) (by simpa using h)
    rw [placeIn, if_neg h0, ih, if_neg (by omega)]
    rfl
theorem placeIn_none (l : List Int) : ∀ (L : List (List Int)), (∀ j (hj : j < L.length), L[j] ≠ l) → placeIn l L = -1
  | [], _ => rfl
  | x :: r, hno => by
    have h0 : ¬ x = l := hno 0 (by simp)
    have ih := placeIn_none l r (fun j hj => hno (j + 1) (by simpa using hj))
    rw [placeIn, if_neg h0, ih, if_pos (by omega)]
theorem raPlace_any (v u : Value) (L : List (List Int)) (l : List Int) (base : Nat) (w : World) (h : Lists w base v L) (h' : Reads w u l) :
    Calls Try.prog 60 #[v, u] w fun e w' => e = .returned (.int .i64 (placeIn l L)) ∧ Below w.heap.size w w' := by
  have HU := hid h'
  have HV := hid h
  rcases h.form with ⟨rfl, rfl⟩ | ⟨g, cap, rfl, _, hg, hc1, hm, hc⟩
  · go_enter Try.func60, Try.ntmps60
    go_wp2_with fail
    refine wp_loop_rounds 1 ?_
    rw [rounds_succ]
    go_wp2
    go_ret
    exact ⟨rfl, Below.refl _ _⟩
  · have HC := hid hc
    clear hc h h'
    go_enter Try.func60, Try.ntmps60
    go_wp2_with fail
    go_loopw [5, 6, 9] (fun _ _ i wr => ∃ k : Nat, k ≤ L.length ∧ i = .int .i64 k ∧ (∀ j (hj : j < L.length), j < k → L[j] ≠ l) ∧ Below w.heap.size w wr) (fun _ _ i _ => L.length - (intOf i).toNat)
    case atStart => exact ⟨0, Nat.zero_le _, rfl, fun j _ h => by omega, Below.refl _ _⟩
    case round =>
      obtain ⟨k, hk, rfl, hno, hbel⟩ := hrel
      have HNO := hid hno
      have HB := hid hbel
      clear hno
      by_cases hlt : k < L.length
      · obtain ⟨z, hz, hown⟩ := HC.out k hlt
        have hcx : wr.cell? ⟨g, k, none⟩ = some z := (hbel.cell (by exact hg)).trans hz
        have HZ := hid (hown.reads.below hbel)
        have HUU := hid (HU.out.below hbel)
        obtain ⟨zl, hzl⟩ : ∃ zl, zl = L[k] := ⟨_, rfl⟩
        rw [← hzl] at HZ
        have HZL := hid hzl
        clear hz hown hbel hzl
        by_cases he : zl = l
        · have hd : decide (zl = l) = true := by simp [he]
          have HF : Hid (placeIn l L = k) := hid (placeIn_found l L k hlt (fun j hj => HNO.out j (by omega) hj) (by rw [← HZL.out, he]))
          clear he
          go_wp2_with (go_at_call 74; refine (l1Same_any _ _ zl l _ HZ.out HUU.out).mono ?_; rintro e w2 ⟨rfl, hb2⟩)
          go_ret
          exact ⟨ret_int HF.out.symm, Below_chain HB.out (by assumption)⟩
        · have hd : decide (zl = l) = false := by simp [he]
          have HNE := hid he
          clear he
          go_wp2_with (go_at_call 74; refine (l1Same_any _ _ zl l _ HZ.out HUU.out).mono ?_; rintro e w2 ⟨rfl, hb2⟩; have HB2 := hid (Below_chain HB.out hb2))
          go_roundw
          case rel => exact ⟨k + 1, by omega, by go_num, fun j hj h1 => by
            by_cases e : j = k
            · subst e; rw [← HZL.out]; exact HNE.out
            · exact HNO.out j hj (by omega), HB2.out⟩
          case measure => simp [intOf]; omega
      · have HF : Hid (placeIn l L = -1) := hid (placeIn_none l L (fun j hj => HNO.out j hj (by omega)))
        go_wp2_with fail
        go_ret
        exact ⟨ret_int HF.out.symm, HB.out⟩
end Go.Proofs.Ytkphbelgamfmnaa
