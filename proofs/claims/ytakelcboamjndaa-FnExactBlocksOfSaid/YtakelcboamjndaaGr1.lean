/- Contracts: l1Most, l1Least, spGrowth, spec.IsGrowth, spTop. Conditions: the slices read as lists of at most 2^20 numbers. -/
import Derived.Test.YtakelcboamjndaaBs1
import Derived.Test.YtakelcboamjndaaRow
namespace Go.Proofs.Ytakelcboamjndaa
open Go.RowKit
set_option linter.unusedVariables false

/-- the greatest of the first k numbers, or -1 -/
def topTo (xs : List Int) : Nat → Int
  | 0 => -1
  | k + 1 => max (topTo xs k) (xs.getD k 0)
def topL (xs : List Int) : Int := topTo xs xs.length
def grAt (xs : List Int) (k : Nat) : Bool := inB (xs.getD k 0) 0 (topTo xs k + 1)
def grB (xs : List Int) : Bool := allTo xs.length (grAt xs) && inB (xs.length : Int) 1 12
theorem topTo_low (xs : List Int) (k : Nat) : -1 ≤ topTo xs k := by
  induction k with
  | zero => exact Int.le_refl _
  | succ k ih => rw [topTo]; omega
theorem topTo_le {xs : List Int} {k : Nat} (h : allTo k (grAt xs) = true) : topTo xs k < k := by
  induction k with
  | zero => show (-1 : Int) < 0; omega
  | succ k ih =>
    rw [allTo_succ, Bool.and_eq_true] at h
    have h1 := ih h.1
    have h2 := inB_iff.1 h.2
    rw [topTo]; omega
theorem topTo_ge {xs : List Int} {k i : Nat} (h : i < k) : xs.getD i 0 ≤ topTo xs k := by
  induction k with
  | zero => omega
  | succ k ih =>
    rw [topTo]
    by_cases e : i = k
    · subst e; omega
    · have := ih (by omega); omega
theorem topTo_mono {xs : List Int} {i k : Nat} (h : i ≤ k) : topTo xs i ≤ topTo xs k := by
  induction k with
  | zero => obtain rfl : i = 0 := by omega
            exact Int.le_refl _
  | succ k ih =>
    by_cases e : i = k + 1
    · subst e; exact Int.le_refl _
    · have := ih (by omega)
      rw [topTo]; omega
theorem grB_iff {xs : List Int} : grB xs = true ↔ (∀ i, i < xs.length → 0 ≤ xs.getD i 0 ∧ xs.getD i 0 ≤ topTo xs i + 1) ∧ 1 ≤ xs.length ∧ xs.length ≤ 12 := by
  unfold grB
  rw [Bool.and_eq_true, allTo_iff, inB_iff]
  constructor
  · rintro ⟨h1, h2, h3⟩
    exact ⟨fun i hi => inB_iff.1 (h1 i hi), by omega, by omega⟩
  · rintro ⟨h1, h2, h3⟩
    exact ⟨fun i hi => inB_iff.2 (h1 i hi), by omega, by omega⟩

theorem l1Most_any (a b : Int) (w : World) : Calls Try.prog 81 #[.int .i64 a, .int .i64 b] w fun e w' => e = .returned (.int .i64 (max a b)) ∧ w = w' := by
  by_cases h : b < a
  · have e : max a b = a := by omega
    rw [e]; clear e
    go_enter Try.func81, Try.ntmps81
    go_wp2
    go_ret
    exact ⟨rfl, rfl⟩
  · have e : max a b = b := by omega
    rw [e]; clear e
    go_enter Try.func81, Try.ntmps81
    go_wp2
    go_ret
    exact ⟨rfl, rfl⟩
theorem l1Least_any (a b : Int) (w : World) : Calls Try.prog 64 #[.int .i64 a, .int .i64 b] w fun e w' => e = .returned (.int .i64 (min a b)) ∧ w = w' := by
  by_cases h : a < b
  · have e : min a b = a := by omega
    rw [e]; clear e
    go_enter Try.func64, Try.ntmps64
    go_wp2
    go_ret
    exact ⟨rfl, rfl⟩
  · have e : min a b = b := by omega
    rw [e]; clear e
    go_enter Try.func64, Try.ntmps64
    go_wp2
    go_ret
    exact ⟨rfl, rfl⟩
theorem spGrowth_any (v : Value) (xs : List Int) (w : World) (h : Reads w v xs) (hl : xs.length ≤ 1048576) :
    Calls Try.prog 48 #[v] w fun e w' => e = .returned (.bool (grB xs)) ∧ w = w' := by
  obtain ⟨ao, c, rfl, hc1, hm, h⟩ := h.view
  rcases h with h | ⟨b, off, rfl, hb, hc⟩
  · subst h
    go_enter Try.func48, Try.ntmps48
    go_wp2
    refine wp_loop_rounds 1 ?_
    rw [rounds_succ]
    go_wp2_with (first | (go_at_call 55; refine (l1In_any _ _ _ _).mono ?_; rintro e w' ⟨rfl, rfl⟩) | fail)
    go_ret
    exact ⟨rfl, rfl⟩
  · have HC := hid hc
    clear hc
    go_enter Try.func48, Try.ntmps48
    go_wp2
    go_loop [3, 8] (fun m i => ∃ k : Nat, k ≤ xs.length ∧ i = .int .i64 k ∧ m = .int .i64 (topTo xs k) ∧ allTo k (grAt xs) = true) (fun _ i => xs.length - (intOf i).toNat)
    case atStart => exact ⟨0, Nat.zero_le _, rfl, rfl, rfl⟩
    case round =>
      obtain ⟨k, hk, rfl, rfl, hall⟩ := hrel
      have HA := hid hall
      have ht1 := topTo_low xs k
      have ht2 := topTo_le hall
      clear hall
      by_cases hlt : k < xs.length
      · have hcx := HC.out k hlt
        obtain ⟨x, hx⟩ : ∃ x, x = xs[k] := ⟨_, rfl⟩
        obtain ⟨t, ht⟩ : ∃ t, t = topTo xs k := ⟨_, rfl⟩
        have HX := hid (show xs.getD k 0 = x by rw [getD_at hlt, hx])
        have HT := hid ht
        rw [← hx] at hcx
        rw [← ht] at ht1 ht2
        rw [← ht]
        have u1 : IntKind.i64.wrap (t + 1) = t + 1 := IntWalk.i64_in _ (by omega)
        clear hx ht
        cases hin : inB x 0 (t + 1)
        · have HF := hid (show grB xs = false by
            unfold grB; rw [allTo_no hlt (by rw [grAt, HX.out, ← HT.out, hin])]; rfl)
          go_wp2_with (first | (go_at_call 55; refine (l1In_any _ _ _ _).mono ?_; rintro e w' ⟨rfl, rfl⟩; rw [hin]) | fail)
          go_ret
          exact ⟨ret_bool HF.out.symm, rfl⟩
        · have HF := hid (show grAt xs k = true by rw [grAt, HX.out, ← HT.out, hin])
          go_wp2_with (first | (go_at_call 55; refine (l1In_any _ _ _ _).mono ?_; rintro e w' ⟨rfl, rfl⟩; rw [hin]) | (go_at_call 81; refine (l1Most_any _ _ _).mono ?_; rintro e w' ⟨rfl, rfl⟩) | fail)
          go_round
          case rel => exact ⟨k + 1, by omega, by go_num, by rw [topTo, HX.out, ← HT.out], allTo_next HA.out HF.out⟩
          case measure => simp [intOf]; omega
      · obtain rfl : k = xs.length := by omega
        have HF := hid (show inB (xs.length : Int) 1 12 = grB xs by unfold grB; rw [HA.out]; rfl)
        go_wp2_with (first | (go_at_call 55; refine (l1In_any _ _ _ _).mono ?_; rintro e w' ⟨rfl, rfl⟩) | fail)
        go_ret
        exact ⟨ret_bool HF.out, rfl⟩
theorem spec_IsGrowth_any (v : Value) (xs : List Int) (w : World) (h : Reads w v xs) (hl : xs.length ≤ 1048576) :
    Calls Try.prog 15 #[v] w fun e w' => e = .returned (.bool (grB xs)) ∧ w = w' := by
  have H := hid h
  clear h
  go_enter Try.func15, Try.ntmps15
  go_wp2_with (go_at_call 48; refine (spGrowth_any _ _ _ H.out hl).mono ?_; rintro e w' ⟨rfl, rfl⟩)
  go_ret
  exact ⟨rfl, rfl⟩
theorem spTop_any (v : Value) (xs : List Int) (w : World) (h : Reads w v xs) (hl : xs.length ≤ 1048576) :
    Calls Try.prog 62 #[v] w fun e w' => e = .returned (.int .i64 (topL xs)) ∧ w = w' := by
  obtain ⟨ao, c, rfl, hc1, hm, h⟩ := h.view
  rcases h with h | ⟨b, off, rfl, hb, hc⟩
  · subst h
    go_enter Try.func62, Try.ntmps62
    go_wp2
    refine wp_loop_rounds 1 ?_
    rw [rounds_succ]
    go_wp2
    go_ret
    exact ⟨rfl, rfl⟩
  · have HC := hid hc
    clear hc
    go_enter Try.func62, Try.ntmps62
    go_wp2
    go_loop [3, 8] (fun m i => ∃ k : Nat, k ≤ xs.length ∧ i = .int .i64 k ∧ m = .int .i64 (topTo xs k)) (fun _ i => xs.length - (intOf i).toNat)
    case atStart => exact ⟨0, Nat.zero_le _, rfl, rfl⟩
    case round =>
      obtain ⟨k, hk, rfl, rfl⟩ := hrel
      by_cases hlt : k < xs.length
      · have hcx := HC.out k hlt
        obtain ⟨x, hx⟩ : ∃ x, x = xs[k] := ⟨_, rfl⟩
        have HX := hid (show xs.getD k 0 = x by rw [getD_at hlt, hx])
        rw [← hx] at hcx
        clear hx
        go_wp2_with (first | (go_at_call 81; refine (l1Most_any _ _ _).mono ?_; rintro e w' ⟨rfl, rfl⟩) | fail)
        go_round
        case rel => exact ⟨k + 1, by omega, by go_num, by rw [topTo, HX.out]⟩
        case measure => simp [intOf]; omega
      · obtain rfl : k = xs.length := by omega
        go_wp2
        go_ret
        exact ⟨rfl, rfl⟩
end Go.Proofs.Ytakelcboamjndaa
