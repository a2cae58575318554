/- Contracts: l1Abs, gcStep and changedDigit, of lists that differ in one element alone, by 1. Conditions: elements in 0..12. -/
import Derived.Test.YtkphbelgamfmnaaMix4
import Derived.Test.YtkphbelgamfmnaaApart
import Derived.Deep.RegionHeld3
namespace Go.Proofs.Ytkphbelgamfmnaa
open Go.RowKit
set_option linter.unusedVariables false

def firstDiff : List Int → List Int → Nat
  | x :: a, y :: b => if x = y then firstDiff a b + 1 else 0
  | _, _ => 0
theorem firstDiff_at (p s : List Int) (x y : Int) (h : x ≠ y) : firstDiff (p ++ x :: s) (p ++ y :: s) = p.length := by
  induction p with
  | nil => simp [firstDiff, h]
  | cons z p ih => simp [firstDiff, ih]
/-- What is known of two such lists, by index. -/
structure Steps (a b : List Int) (r : Nat) (d : Int) : Prop where
  len : b.length = a.length
  at_ : r < a.length
  dif : a.getD r 0 - b.getD r 0 = d
  dif' : b.getD r 0 - a.getD r 0 = -d
  one : d = 1 ∨ d = -1
  same : ∀ i, i < a.length → i ≠ r → a.getD i 0 = b.getD i 0
theorem Steps.of {a b : List Int} (h : stepAt a b) : ∃ d, Steps a b (firstDiff a b) d := by
  obtain ⟨p, x, y, s, rfl, rfl, hxy⟩ := h
  have hne : x ≠ y := by omega
  rw [firstDiff_at p s x y hne]
  refine ⟨x - y, by simp, by simp, ?_, ?_, by omega, fun i hi hne => ?_⟩
  · simp [List.getD_eq_getElem?_getD]
  · simp [List.getD_eq_getElem?_getD]; omega
  · simp only [List.getD_eq_getElem?_getD]
    by_cases h1 : i < p.length
    · rw [List.getElem?_append_left h1, List.getElem?_append_left h1]
    · rw [List.getElem?_append_right (by omega), List.getElem?_append_right (by omega)]
      obtain ⟨j, hj⟩ : ∃ j, i - p.length = j + 1 := ⟨i - p.length - 1, by omega⟩
      rw [hj]; simp
theorem l1Most_any (a b : Int) (w : World) (h : b < a ∨ a < b) : Calls Try.prog 71 #[.int .i64 a, .int .i64 b] w fun e w' => e = .returned (.int .i64 (if b < a then a else b)) ∧ w = w' := by
  by_cases h1 : b < a
  · have h2 : ¬ a < b := by omega
    have h3 : ¬ a ≤ b := by omega
    go_enter Try.func71, Try.ntmps71
    go_wp2
    go_ret
    exact ⟨rfl, rfl⟩
  · have h2 : a < b := by omega
    have h3 : a ≤ b := by omega
    go_enter Try.func71, Try.ntmps71
    go_wp2
    go_ret
    exact ⟨rfl, rfl⟩
theorem l1Abs_one (d : Int) (w : World) (h : d = 1 ∨ d = -1) : Calls Try.prog 54 #[.int .i64 d] w fun e w' => e = .returned (.int .i64 1) ∧ w = w' := by
  rcases h with rfl | rfl
  all_goals
    go_enter Try.func54, Try.ntmps54
    go_wp2_with (first | (go_at_call 71; refine (l1Most_any _ _ _ (by decide)).mono ?_; rintro e w' ⟨rfl, rfl⟩) | fail)
    go_ret
    exact ⟨rfl, rfl⟩
theorem gcStep_any (v u : Value) (a b : List Int) (r : Nat) (d : Int) (w : World) (h : Sits w v a) (h' : Sits w u b) (hs : Steps a b r d) (hl : a.length ≤ 12) :
    Calls Try.prog 31 #[v, u] w fun e w' => e = .returned (.int .i64 (r : Int)) ∧ w = w' := by
  obtain ⟨g, off, c, rfl, hc1, hm, hb, hc⟩ := h
  obtain ⟨g', off', c', rfl, hc1', hm', hb', hc'⟩ := h'
  obtain ⟨s1, s2, s3, s3', s4, s5⟩ := hs
  have HS5 := hid s5
  have HS1 := hid s1
  clear s1
  have HS3 := hid s3
  clear s5 s3 s3'
  go_enter Try.func31, Try.ntmps31
  go_wp2
  go_loopw [5, 6, 7, 10] (fun at_ _ _ i wr => ∃ k : Nat, k ≤ a.length ∧ i = .int .i64 k ∧ at_ = .int .i64 (if k ≤ r then -1 else (r : Int)) ∧ w = wr) (fun _ _ _ i _ => a.length - (intOf i).toNat)
  case atStart => exact ⟨0, Nat.zero_le _, rfl, by rw [if_pos (Nat.zero_le _)], rfl⟩
  case round =>
    obtain ⟨k, hk, rfl, rfl, rfl⟩ := hrel
    by_cases hlt : k < a.length
    · have hlt' : k < b.length := by have := HS1.out; omega
      have hcx := hc k hlt
      have hcy := hc' k hlt'
      by_cases hr : k = r
      · have hd : a[k] - b[k] = d := by
          have := HS3.out
          rw [← hr, getD_at hlt, getD_at hlt'] at this
          exact this
        obtain ⟨x, hx⟩ : ∃ x, x = a[k] := ⟨_, rfl⟩
        obtain ⟨y, hy⟩ : ∃ y, y = b[k] := ⟨_, rfl⟩
        rw [← hx] at hcx hd
        rw [← hy] at hcy hd
        have hne : (x == y) = false := by simp; omega
        have hww : IntKind.i64.wrap (x - y) = d := by rw [hd]; rcases s4 with rfl | rfl <;> rfl
        have HK := hid hr
        clear hc hc' hx hy
        rw [if_pos (by omega)]
        clear hr
        go_wp2_with (first | (go_at_call 54; refine (l1Abs_one _ _ s4).mono ?_; rintro e w' ⟨rfl, rfl⟩) | fail)
        go_roundw
        case rel => exact ⟨k + 1, by omega, by go_num, by rw [if_neg (by have := HK.out; omega), HK.out], trivial⟩
        case measure => simp [intOf]; omega
      · have he : a[k] = b[k] := by
          have := HS5.out k hlt hr
          rw [getD_at hlt, getD_at hlt'] at this
          exact this
        have hbb : (a[k] == b[k]) = true := by simpa using he
        have HIF : Hid ((if k ≤ r then (-1 : Int) else (r : Int)) = (if k + 1 ≤ r then (-1 : Int) else (r : Int))) := by
          show _ = _
          by_cases h1 : k ≤ r
          · rw [if_pos h1, if_pos (by omega)]
          · rw [if_neg h1, if_neg (by omega)]
        obtain ⟨z, hz⟩ : ∃ z, z = (if k ≤ r then (-1 : Int) else (r : Int)) := ⟨_, rfl⟩
        rw [← hz] at HIF ⊢
        clear hc hc' he hz hr
        go_wp2
        go_roundw
        case rel => exact ⟨k + 1, by omega, by go_num, by rw [HIF.out], trivial⟩
        case measure => simp [intOf]; omega
    · obtain rfl : k = a.length := by omega
      rw [if_neg (by omega)]
      go_wp2
      go_ret
      exact ⟨rfl, rfl⟩
set_option maxHeartbeats 1000000 in
theorem changedDigit_any (v u : Value) (a b : List Int) (r : Nat) (d : Int) (w : World) (h : Sits w v a) (h' : Sits w u b) (hs : Steps a b r d) (hl : a.length ≤ 12) (ha : ∀ i, i < a.length → 0 ≤ a.getD i 0 ∧ a.getD i 0 ≤ 12) (hb0 : ∀ i, i < b.length → 0 ≤ b.getD i 0 ∧ b.getD i 0 ≤ 12) :
    Calls Try.prog 56 #[v, u] w fun e w' => e = .returned (.tuple #[.int .i64 (r : Int), .bool true]) ∧ ∃ q, w' = w.drewN q := by
  obtain ⟨g, off, c, rfl, hc1, hm, hb, hc⟩ := h
  obtain ⟨g', off', c', rfl, hc1', hm', hb', hc'⟩ := h'
  obtain ⟨s1, s2, s3, s3', s4, s5⟩ := hs
  have HS5 := hid s5
  have HS1 := hid s1
  clear s1
  have HS3 := hid s3
  have HS3' := hid s3'
  have HA := hid ha
  have HB := hid hb0
  have HC := hid hc
  have HC' := hid hc'
  clear s5 s3 s3' ha hb0 hc hc'
  go_enter Try.func56, Try.ntmps56
  go_wp2
  go_loopw [6, 7, 8, 9, 12] (fun at_ st _ _ i wr => ∃ k : Nat, k ≤ a.length ∧ i = .int .i64 k ∧ at_ = .int .i64 (if k ≤ r then 0 else (r : Int)) ∧ st = .int .i64 (if k ≤ r then 0 else 1) ∧ ∃ q, wr = w.drewN q) (fun _ _ _ _ i _ => a.length - (intOf i).toNat)
  case atStart => exact ⟨0, Nat.zero_le _, rfl, by rw [if_pos (Nat.zero_le _)], by rw [if_pos (Nat.zero_le _)], 0, rfl⟩
  case round =>
    obtain ⟨k, hk, rfl, rfl, rfl, hq⟩ := hrel
    by_cases hlt : k < a.length
    · have hlt' : k < b.length := by have := HS1.out; omega
      have hx1 := HA.out k hlt
      have hy1 := HB.out k hlt'
      have HDD := hid (Drew.next hq 1)
      have hcx : wr.cell? ⟨g, off + k, none⟩ = some (.int .i64 a[k]) := ((Drew.below hq w.heap.size).cell (by exact hb)).trans (HC.out k hlt)
      have hcy : wr.cell? ⟨g', off' + k, none⟩ = some (.int .i64 b[k]) := ((Drew.below hq w.heap.size).cell (by exact hb')).trans (HC'.out k hlt')
      have hkl : (k : Int) < (a.length : Int) := by omega
      have hkl' : (k : Int) < (b.length : Int) := by omega
      have hk0 : (0 : Int) ≤ (k : Int) := by omega
      rw [getD_at hlt] at hx1
      rw [getD_at hlt'] at hy1
      have HH := hid hq
      clear hq
      by_cases hr : k = r
      · have hd : a[k] - b[k] = d := by
          have := HS3.out
          rw [← hr, getD_at hlt, getD_at hlt'] at this
          exact this
        have hd' : b[k] - a[k] = -d := by omega
        obtain ⟨x, hx⟩ : ∃ x, x = a[k] := ⟨_, rfl⟩
        obtain ⟨y, hy⟩ : ∃ y, y = b[k] := ⟨_, rfl⟩
        rw [← hx] at hcx hd hd' hx1
        rw [← hy] at hcy hd hd' hy1
        have hww : IntKind.i64.wrap (x - y) = d := by rw [hd]; rcases s4 with rfl | rfl <;> rfl
        have hww' : IntKind.i64.wrap (y - x) = -d := by rw [hd']; rcases s4 with rfl | rfl <;> rfl
        have HK := hid hr
        have hcx' : wr.drew.cell? ⟨g, off + k, none⟩ = some (.int .i64 x) := hcx
        have hcy' : wr.drew.cell? ⟨g', off' + k, none⟩ = some (.int .i64 y) := hcy
        have HIF2 : Hid ((if k + 1 ≤ r then (0 : Int) else (r : Int)) = (k : Int) ∧ (if k + 1 ≤ r then (0 : Int) else 1) = 1) := by
          show _ ∧ _
          rw [if_neg (by omega), if_neg (by omega), hr]; exact ⟨rfl, rfl⟩
        have HAP := hid (show apV x y = 1 by unfold apV; rw [hd, hd']; rcases s4 with rfl | rfl <;> rfl)
        have hs1 : -100000 ≤ x - y := by rw [hd]; rcases s4 with rfl | rfl <;> omega
        have hs2 : x - y ≤ 100000 := by rw [hd]; rcases s4 with rfl | rfl <;> omega
        clear hx hy hd hd'
        rw [if_pos (by omega), if_pos (by omega)]
        clear hr
        go_wp2
        go_region_held3 (fun w' => w'.cell? ⟨g, off + k, none⟩ = some (.int .i64 x) ∧ w'.cell? ⟨g', off' + k, none⟩ = some (.int .i64 y))
          (first | exact ⟨hcx', hcy'⟩ | go_keep | fail)
          (first | (go_at_call 72; refine (apart_any x y _ hs1 hs2).mono ?_; rintro e w2 ⟨rfl, rfl⟩; rw [HAP.out]) | fail)
        all_goals
          go_wp2
          go_roundw
          case rel => exact ⟨k + 1, by omega, by go_num, by rw [HIF2.out.1], by rw [HIF2.out.2], HDD.out⟩
          case measure => simp [intOf]; omega
      · have he : a[k] = b[k] := by
          have := HS5.out k hlt hr
          rw [getD_at hlt, getD_at hlt'] at this
          exact this
        obtain ⟨x, hx⟩ : ∃ x, x = a[k] := ⟨_, rfl⟩
        rw [← he] at hcy
        rw [← hx] at hcx hcy hx1
        have hww : IntKind.i64.wrap (x - x) = 0 := by rw [Int.sub_self]; rfl
        have hxx : x - x = 0 := Int.sub_self x
        have hcx' : wr.drew.cell? ⟨g, off + k, none⟩ = some (.int .i64 x) := hcx
        have hcy' : wr.drew.cell? ⟨g', off' + k, none⟩ = some (.int .i64 x) := hcy
        have hmx : max (0 : Int) 0 = 0 := rfl
        have HIF : Hid ((if k ≤ r then (0 : Int) else (r : Int)) = (if k + 1 ≤ r then (0 : Int) else (r : Int)) ∧ (if k ≤ r then (0 : Int) else 1) = (if k + 1 ≤ r then (0 : Int) else 1)) := by
          show _ ∧ _
          by_cases h1 : k ≤ r
          · rw [if_pos h1, if_pos (by omega), if_pos h1, if_pos (by omega)]; exact ⟨rfl, rfl⟩
          · rw [if_neg h1, if_neg (by omega), if_neg h1, if_neg (by omega)]; exact ⟨rfl, rfl⟩
        obtain ⟨z, hz⟩ : ∃ z, z = (if k ≤ r then (0 : Int) else (r : Int)) := ⟨_, rfl⟩
        obtain ⟨z', hz'⟩ : ∃ z, z = (if k ≤ r then (0 : Int) else 1) := ⟨_, rfl⟩
        rw [← hz, ← hz'] at HIF ⊢
        clear hx hy1 he hz hz' hr
        go_wp2
        go_region_held3 (fun w' => w'.cell? ⟨g, off + k, none⟩ = some (.int .i64 x) ∧ w'.cell? ⟨g', off' + k, none⟩ = some (.int .i64 x))
          (first | exact ⟨hcx', hcy'⟩ | go_keep | fail)
          (first | (go_at_call 72; refine (apart_any x x _ (by omega) (by omega)).mono ?_; rintro e w2 ⟨rfl, rfl⟩; rw [apV_self]) | fail)
        all_goals
          go_wp2
          go_roundw
          case rel => exact ⟨k + 1, by omega, by go_num, by rw [HIF.out.1], by rw [HIF.out.2], HDD.out⟩
          case measure => simp [intOf]; omega
    · obtain rfl : k = a.length := by omega
      rw [if_neg (by omega), if_neg (by omega)]
      go_wp2
      go_ret2
      exact ⟨rfl, hq⟩
end Go.Proofs.Ytkphbelgamfmnaa
