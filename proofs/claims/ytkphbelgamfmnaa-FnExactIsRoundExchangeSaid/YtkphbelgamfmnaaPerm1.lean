/- Contracts: l1Has, raPermutation and both IsPermutation functions. Conditions: the slice reads as a list. -/
import Derived.Test.YtkphbelgamfmnaaPermMath
import Derived.Test.YtkphbelgamfmnaaComb2
namespace Go.Proofs.Ytkphbelgamfmnaa
open Go.RowKit
set_option linter.unusedVariables false

/-- The beginning of a slice. -/
theorem Reads_take {w : World} {b off c : Nat} {xs : List Int} (k : Nat) (hk : k ≤ xs.length) (hc1 : xs.length ≤ c) (hm : c ≤ 9223372036854775807) (hb : b < w.heap.size)
    (hc : ∀ i (hi : i < xs.length), w.cell? ⟨b, off + i, none⟩ = some (.int .i64 xs[i])) : Reads w (.slice (some ⟨b, off, none⟩) k c) (xs.take k) := by
  have hl : (xs.take k).length = k := by simp; omega
  refine ⟨_, c, by rw [hl], by omega, by unfold maxLen; omega, .inr ⟨b, off, rfl, hb, fun i hi => ?_⟩⟩
  rw [hl] at hi
  rw [hc i (by omega)]
  simp [List.getD_eq_getElem?_getD, hi, show i < xs.length by omega]

theorem l1Has_any (v : Value) (xs : List Int) (y : Int) (w : World) (h : Reads w v xs) :
    Calls Try.prog 47 #[v, .int .i64 y] w fun e w' => e = .returned (.bool (hasB xs y)) ∧ w = w' := by
  obtain ⟨ao, c, rfl, hc1, hm, h⟩ := h.view
  rcases h with h | ⟨b, off, rfl, hb, hc⟩
  · subst h
    go_enter Try.func47, Try.ntmps47
    go_wp2
    refine wp_loop_rounds 1 ?_
    rw [rounds_succ]
    go_wp2
    go_ret
    exact ⟨rfl, rfl⟩
  · go_enter Try.func47, Try.ntmps47
    go_wp2
    go_loop [6, 9] (fun _ i => ∃ k : Nat, k ≤ xs.length ∧ i = .int .i64 k ∧ hasB (xs.take k) y = false) (fun _ i => xs.length - (intOf i).toNat)
    case atStart => exact ⟨0, Nat.zero_le _, rfl, rfl⟩
    case round =>
      obtain ⟨k, hk, rfl, hno⟩ := hrel
      have HN := hid hno
      clear hno
      by_cases hlt : k < xs.length
      · have hcx := hc k hlt
        clear hc
        by_cases he : xs[k] = y
        · have hb1 : (xs[k] == y) = true := by simp [he]
          have HF : Hid (hasB xs y = true) := by
            show hasB xs y = true
            rw [hasB_iff, ← he]
            exact List.getElem_mem _
          clear he
          go_wp2
          go_ret
          exact ⟨ret_bool HF.out.symm, rfl⟩
        · have hb1 : (xs[k] == y) = false := by simp [he]
          have hb2 : decide (y = xs[k]) = false := by simp; exact fun h => he h.symm
          have HF : Hid (hasB (xs.take (k + 1)) y = false) := by
            show hasB (xs.take (k + 1)) y = false
            rw [hasB_take_succ xs k hlt, HN.out, hb2]; rfl
          clear he hb2
          go_wp2
          go_round
          case rel => exact ⟨k + 1, by omega, by go_num, HF.out⟩
          case measure => simp [intOf]; omega
      · obtain rfl : k = xs.length := by omega
        have HF : Hid (hasB xs y = false) := by
          have := HN.out
          rwa [List.take_length] at this
        go_wp2
        go_ret
        exact ⟨ret_bool HF.out.symm, rfl⟩
theorem raPermutation_any (v : Value) (xs : List Int) (w : World) (h : Reads w v xs) :
    Calls Try.prog 23 #[v] w fun e w' => e = .returned (.bool (permB xs)) ∧ w = w' := by
  obtain ⟨ao, c, rfl, hc1, hm, h⟩ := h.view
  rcases h with h | ⟨b, off, rfl, hb, hc⟩
  · subst h
    go_enter Try.func23, Try.ntmps23
    go_wp2
    refine wp_loop_rounds 1 ?_
    rw [rounds_succ]
    go_wp2
    go_ret
    exact ⟨rfl, rfl⟩
  · have HC := hid hc
    go_enter Try.func23, Try.ntmps23
    go_wp2
    go_loop [3, 4, 7] (fun _ _ i => ∃ k : Nat, k ≤ xs.length ∧ i = .int .i64 k ∧ allTo k (permAt xs) = true) (fun _ _ i => xs.length - (intOf i).toNat)
    case atStart => exact ⟨0, Nat.zero_le _, rfl, rfl⟩
    case round =>
      obtain ⟨k, hk, rfl, hall⟩ := hrel
      have HA := hid hall
      clear hall
      by_cases hlt : k < xs.length
      · have hcx := hc k hlt
        clear hc
        by_cases h12 : k < 12
        · by_cases hin : inB xs[k] 0 ((xs.length : Int) - 1) = true
          · have hrd := Reads_take (w := w) (off := off) k (by omega) hc1 hm hb HC.out
            have HR := hid hrd
            clear hrd
            by_cases hf : hasB (xs.take k) xs[k] = true
            · have HF : Hid (permAt xs k = false) := by
                show permAt xs k = false
                rw [permAt, freshAt, getD_at hlt, hf]; simp
              go_wp2_with (first | (go_at_call 46; refine (l1In_any _ _ _ _).mono ?_; rintro e w' ⟨rfl, rfl⟩) | (go_at_call 47; refine (l1Has_any _ _ _ _ HR.out).mono ?_; rintro e w' ⟨rfl, rfl⟩))
              go_ret
              exact ⟨ret_bool (allTo_no hlt HF.out).symm, rfl⟩
            · have hf : hasB (xs.take k) xs[k] = false := by simpa using hf
              have HF : Hid (permAt xs k = true) := by
                show permAt xs k = true
                rw [permAt, freshAt, getD_at hlt, hf, hin]; simp [h12]
              go_wp2_with (first | (go_at_call 46; refine (l1In_any _ _ _ _).mono ?_; rintro e w' ⟨rfl, rfl⟩) | (go_at_call 47; refine (l1Has_any _ _ _ _ HR.out).mono ?_; rintro e w' ⟨rfl, rfl⟩))
              go_round
              case rel => exact ⟨k + 1, by omega, by go_num, allTo_next HA.out HF.out⟩
              case measure => simp [intOf]; omega
          · have hin : inB xs[k] 0 ((xs.length : Int) - 1) = false := by simpa using hin
            have HF : Hid (permAt xs k = false) := by
              show permAt xs k = false
              rw [permAt, getD_at hlt, hin]; simp
            go_wp2_with (first | (go_at_call 46; refine (l1In_any _ _ _ _).mono ?_; rintro e w' ⟨rfl, rfl⟩))
            go_ret
            exact ⟨ret_bool (allTo_no hlt HF.out).symm, rfl⟩
        · have HF : Hid (permAt xs k = false) := by
            show permAt xs k = false
            rw [permAt]; simp [h12]
          go_wp2_with fail
          go_ret
          exact ⟨ret_bool (allTo_no hlt HF.out).symm, rfl⟩
      · obtain rfl : k = xs.length := by omega
        go_wp2
        go_ret
        exact ⟨ret_bool HA.out.symm, rfl⟩
theorem impl_IsPermutation_any (v : Value) (xs : List Int) (w : World) (h : Reads w v xs) :
    Calls Try.prog 25 #[v] w fun e w' => e = .returned (.bool (permB xs)) ∧ Below w.heap.size w w' := by
  rw [← permB_eq]
  have H := hid h
  obtain ⟨ao, c, rfl, hc1, hm, h⟩ := h.view
  by_cases h1 : inB (xs.length : Int) 0 12 = true
  · by_cases h2 : belowB xs xs.length = true
    · have h12 := (inB_iff.1 h1).2
      go_enter Try.func25, Try.ntmps25
      go_wp2_with (first | (go_at_call 49; refine (isItemCount_any _ _).mono ?_; rintro e w' ⟨rfl, rfl⟩) | (go_at_call 50; refine (areBelow_any _ _ _ _ H.out).mono ?_; rintro e w' ⟨rfl, rfl⟩))
      have hr0 : (w.alloc (.cells #[.bool false, .bool false, .bool false, .bool false, .bool false, .bool false, .bool false, .bool false, .bool false, .bool false, .bool false, .bool false] 54)).rowIs w.heap.size 54 12 (fun _ => .bool false) :=
        World.rowIs_alloc _ _ _ _ (fun i hi => by
          match i, hi with
          | 0, _ => rfl | 1, _ => rfl | 2, _ => rfl | 3, _ => rfl | 4, _ => rfl | 5, _ => rfl | 6, _ => rfl | 7, _ => rfl | 8, _ => rfl | 9, _ => rfl | 10, _ => rfl | 11, _ => rfl
          | n + 12, h => exact absurd h (by simp))
      have hB0 : Below w.heap.size w (w.alloc (.cells #[.bool false, .bool false, .bool false, .bool false, .bool false, .bool false, .bool false, .bool false, .bool false, .bool false, .bool false, .bool false] 54)) := (Below.refl _ _).alloc (Nat.le_refl _) _
      have HR0 := hid hr0
      have HB0 := hid hB0
      have HE : Hid (permB' xs = allTo xs.length (freshAt xs)) := by show permB' xs = _; simp [permB', h1, h2]
      have HBW := hid h2
      clear hr0 hB0 h2
      rcases h with h | ⟨b, off, rfl, hb, hc⟩
      · have HX := hid h
        clear h
        go_loopw [5, 19] (fun _ i wr => ∃ k : Nat, k ≤ xs.length ∧ i = .int .i64 k ∧ Below w.heap.size w wr) (fun _ i _ => xs.length - (intOf i).toNat)
        case atStart => exact ⟨0, Nat.zero_le _, rfl, HB0.out⟩
        case round =>
          obtain ⟨k, hk, rfl, hbel⟩ := hrel
          by_cases hlt : k < xs.length
          · exact absurd hlt (by rw [HX.out]; simp)
          · go_wp2
            go_ret
            exact ⟨ret_bool (by rw [HE.out, HX.out]; rfl), hbel⟩
      · go_loopw [5, 19] (fun _ i wr => ∃ k : Nat, k ≤ xs.length ∧ i = .int .i64 k ∧ allTo k (freshAt xs) = true ∧ wr.rowIs w.heap.size 54 12 (fun y => .bool (hasB (xs.take k) (y : Int))) ∧ Below w.heap.size w wr) (fun _ i _ => xs.length - (intOf i).toNat)
        case atStart => exact ⟨0, Nat.zero_le _, rfl, rfl, HR0.out, HB0.out⟩
        case round =>
          obtain ⟨k, hk, rfl, hall, hrow, hbel⟩ := hrel
          have HA := hid hall
          clear hall
          by_cases hlt : k < xs.length
          · have hcx : wr.cell? ⟨b, off + k, none⟩ = some (.int .i64 xs[k]) := (hbel.cell (by exact hb)).trans (hc k hlt)
            have hbw := HBW.out
            unfold belowB at hbw
            have hin := inB_iff.1 ((allTo_iff _ _).1 hbw k hlt)
            rw [getD_at hlt] at hin
            obtain ⟨x, hx⟩ := Int.eq_ofNat_of_zero_le hin.1
            have HXX := hid hx
            rw [hx] at hcx hin
            have hx1 : x < xs.length := by omega
            have hx2 : x < 12 := by omega
            clear hx hin hbw hc
            have hcc := hrow.cell (i := x) hx2
            have hfz := hrow.frozen x
            by_cases hf : hasB (xs.take k) (x : Int) = true
            · have HF : Hid (freshAt xs k = false) := by
                show freshAt xs k = false
                rw [freshAt, getD_at hlt, HXX.out, hf]; rfl
              rw [hf] at hcc
              have HRW := hid hrow
              clear hrow
              go_wp2
              go_ret
              exact ⟨ret_bool (by rw [HE.out, allTo_no hlt HF.out]), hbel⟩
            · have hf : hasB (xs.take k) (x : Int) = false := by simpa using hf
              have HF : Hid (freshAt xs k = true) := by
                show freshAt xs k = true
                rw [freshAt, getD_at hlt, HXX.out, hf]; rfl
              rw [hf] at hcc
              have hs := hrow.set x (.bool true)
              have hbl := hbel.setCell (p := ⟨w.heap.size, x, none⟩) (Nat.le_refl _) (.bool true)
              have HS := hid hs
              have HB := hid hbl
              clear hs hbl hrow hbel
              go_wp2
              go_roundw
              case rel => exact ⟨k + 1, by omega, by go_num, allTo_next HA.out HF.out, HS.out.congr (fun y hy => by
                rw [hasB_take_succ xs k hlt, HXX.out]
                by_cases h : y = x
                · subst h; simp
                · rw [if_neg h]
                  have : decide ((y : Int) = (x : Int)) = false := by simp; omega
                  rw [this, Bool.or_false]), HB.out⟩
              case measure => simp [intOf]; omega
          · obtain rfl : k = xs.length := by omega
            have HRW := hid hrow
            clear hrow
            go_wp2
            go_ret
            exact ⟨ret_bool (by rw [HE.out, HA.out]), hbel⟩
    · have h2 : belowB xs xs.length = false := by simpa using h2
      have HF : Hid (permB' xs = false) := by show permB' xs = _; simp [permB', h1, h2]
      clear h
      go_enter Try.func25, Try.ntmps25
      go_wp2_with (first | (go_at_call 49; refine (isItemCount_any _ _).mono ?_; rintro e w' ⟨rfl, rfl⟩) | (go_at_call 50; refine (areBelow_any _ _ _ _ H.out).mono ?_; rintro e w' ⟨rfl, rfl⟩))
      go_ret
      exact ⟨ret_bool HF.out.symm, Below.refl _ _⟩
  · have h1 : inB (xs.length : Int) 0 12 = false := by simpa using h1
    have HF : Hid (permB' xs = false) := by show permB' xs = _; simp [permB', h1]
    clear h
    go_enter Try.func25, Try.ntmps25
    go_wp2_with (first | (go_at_call 49; refine (isItemCount_any _ _).mono ?_; rintro e w' ⟨rfl, rfl⟩))
    go_ret
    exact ⟨ret_bool HF.out.symm, Below.refl _ _⟩
end Go.Proofs.Ytkphbelgamfmnaa
