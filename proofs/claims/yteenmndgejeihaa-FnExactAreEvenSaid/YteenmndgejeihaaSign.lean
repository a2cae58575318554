/- Contracts: raSign and both SignOf functions. Conditions: the slice reads as a list of at most 2^20 numbers. -/
import Derived.Test.YteenmndgejeihaaPerm4
namespace Go.Proofs.Yteenmndgejeihaa
open Go.RowKit
set_option linter.unusedVariables false

def sumTo (ys : List Int) : Nat → Int
  | 0 => 0
  | k + 1 => sumTo ys k + ys.getD k 0
def signSum (s : Int) : Int := if s % 2 = 1 then -1 else 1
def signRes (xs : List Int) : Int := if permB xs = true then signSum (sumTo (invsTo xs xs.length) xs.length) else 0
theorem signRes_yes {xs : List Int} (h : permB xs = true) : signRes xs = signSum (sumTo (invsTo xs xs.length) xs.length) := by unfold signRes; rw [if_pos h]
theorem signRes_no {xs : List Int} (h : permB xs = false) : signRes xs = 0 := by unfold signRes; rw [if_neg (by rw [h]; simp)]
theorem signSum_odd {s c : Int} (h : c % 2 = 1) : signSum (s + c) = - signSum s := by
  unfold signSum
  by_cases h1 : s % 2 = 1
  · rw [if_pos h1, if_neg (by omega)]; rfl
  · rw [if_neg h1, if_pos (by omega)]
theorem signSum_even {s c : Int} (h : ¬ c % 2 = 1) : signSum (s + c) = signSum s := by
  unfold signSum
  by_cases h1 : s % 2 = 1
  · rw [if_pos h1, if_pos (by omega)]
  · rw [if_neg h1, if_neg (by omega)]
theorem signSum_range (s : Int) : -1 ≤ signSum s ∧ signSum s ≤ 1 := by unfold signSum; split <;> omega
theorem invs_range {xs : List Int} (n k : Nat) (h : k < n) : 0 ≤ (invsTo xs n).getD k 0 ∧ (invsTo xs n).getD k 0 ≤ k := by
  rw [invsTo_getD _ _ _ h]
  have := countGt_le (xs.take k) (xs.getD k 0)
  have h2 : (xs.take k).length ≤ k := List.length_take_le _ _
  omega
theorem sum_range {xs : List Int} (n k : Nat) (h : k ≤ n) (hn : n ≤ 12) : 0 ≤ sumTo (invsTo xs n) k ∧ sumTo (invsTo xs n) k ≤ 12 * k := by
  induction k with
  | zero => simp [sumTo]
  | succ k ih =>
    have := ih (by omega)
    have h2 := invs_range (xs := xs) n k (by omega)
    rw [sumTo]
    omega

theorem raSign_any (v : Value) (xs : List Int) (w : World) (h : Sits w v xs) (hl : xs.length ≤ 12) :
    Calls Try.prog 118 #[v] w fun e w' => e = .returned (.int .i64 (signSum (sumTo (invsTo xs xs.length) xs.length))) ∧ Below w.heap.size w w' := by
  have hlen := invsTo_length xs xs.length
  go_enter Try.func118, Try.ntmps118
  go_wp2_with fail
  refine (raInversions_any _ xs _ h (by omega)).mono ?_
  rintro e W1 ⟨u, rfl, hou, hbu⟩
  rcases hou.form with ⟨rfl, hnil⟩ | ⟨g, cap, rfl, _, hlt, hc1, hm, hc, _⟩
  · have h0 : xs.length = 0 := by rw [hnil] at hlen; exact hlen.symm
    have HN := hid h0
    clear hlen hnil h0
    go_wp2_with fail
    refine wp_loop_rounds 1 ?_
    rw [rounds_succ]
    go_wp2
    go_ret
    exact ⟨ret_int (by rw [HN.out]; rfl), hbu⟩
  · rw [hlen] at hc1 hc
    have HC := hid hc
    have HL := hid hlen
    have hcap : cap ≤ 9223372036854775807 := by unfold maxLen at hm; omega
    clear hlen hm hc
    rw [HL.out]
    go_wp2_with fail
    go_loop [3, 5, 9] (fun s _ i => ∃ k : Nat, k ≤ xs.length ∧ i = .int .i64 k ∧ s = .int .i64 (sumTo (invsTo xs xs.length) k)) (fun _ _ i => xs.length - (intOf i).toNat)
    case atStart => exact ⟨0, Nat.zero_le _, rfl, rfl⟩
    case round =>
      obtain ⟨k, hk, rfl, rfl⟩ := hrel
      obtain ⟨r1, r2⟩ := sum_range (xs := xs) xs.length k hk hl
      by_cases hlt2 : k < xs.length
      · obtain ⟨r3, r4⟩ := invs_range (xs := xs) xs.length k hlt2
        have hcx := HC.out k hlt2
        rw [Nat.zero_add] at hcx
        obtain ⟨c, hcd⟩ : ∃ c, c = (invsTo xs xs.length).getD k 0 := ⟨_, rfl⟩
        rw [← hcd] at hcx r3 r4
        have HS : Hid (sumTo (invsTo xs xs.length) (k + 1) = sumTo (invsTo xs xs.length) k + c) := by
          show sumTo (invsTo xs xs.length) (k + 1) = sumTo (invsTo xs xs.length) k + c
          rw [sumTo, hcd]
        clear hcd
        go_wp2_with fail
        go_round
        case rel => exact ⟨k + 1, by omega, by go_num, by rw [HS.out]⟩
        case measure => simp [intOf]; omega
      · obtain rfl : k = xs.length := by omega
        by_cases ho : sumTo (invsTo xs xs.length) xs.length % 2 = 1
        · have hb1 : (sumTo (invsTo xs xs.length) xs.length % 2 == 1) = true := by simp [ho]
          have HF : Hid (signSum (sumTo (invsTo xs xs.length) xs.length) = -1) := by
            show signSum _ = _
            unfold signSum; rw [if_pos ho]
          clear ho
          go_wp2_with fail
          go_ret
          exact ⟨ret_int HF.out.symm, hbu⟩
        · have hb1 : (sumTo (invsTo xs xs.length) xs.length % 2 == 1) = false := by simp [ho]
          have HF : Hid (signSum (sumTo (invsTo xs xs.length) xs.length) = 1) := by
            show signSum _ = _
            unfold signSum; rw [if_neg ho]
          clear ho
          go_wp2_with fail
          go_ret
          exact ⟨ret_int HF.out.symm, hbu⟩
theorem impl_SignOf_any (v : Value) (xs : List Int) (w : World) (h : Sits w v xs) (hl : xs.length ≤ 1048576) (hwf : ∀ n ∈ xs, (Lit.int .i64 n).wf = true) :
    Calls Try.prog 83 #[v] w fun e w' => e = .returned (.tuple #[.int .i64 (signRes xs), .bool (permB xs)]) ∧ Below w.heap.size w w' := by
  by_cases hp : permB xs = true
  · have HP := hid (signRes_yes hp)
    have HP2 := hid hp
    have HI := hid (invRes_yes hp)
    have hl := permB_len hp
    have hlen := invsTo_length xs xs.length
    go_enter Try.func83, Try.ntmps83
    go_wp2_with fail
    refine (impl_InversionsOf_any _ xs _ h (by omega) hwf).mono ?_
    rintro e W1 ⟨u, rfl, hou, hbu⟩
    rw [HI.out] at hou
    clear h hwf
    rcases hou.form with ⟨rfl, hnil⟩ | ⟨g, cap, rfl, _, hlt, hc1, hm, hc, _⟩
    · have h0 : xs.length = 0 := by rw [hnil] at hlen; exact hlen.symm
      have HN := hid h0
      clear hlen hnil h0
      go_wp2_with fail
      refine wp_loop_rounds 1 ?_
      rw [rounds_succ]
      go_wp2
      go_ret2
      exact ⟨ret_nb (by rw [HP.out, HN.out]; rfl) (by first | rfl | exact HP2.out.symm), hbu⟩
    · rw [hlen] at hc1 hc
      have HC := hid hc
      have HL := hid hlen
      have hcap : cap ≤ 9223372036854775807 := by unfold maxLen at hm; omega
      clear hlen hm hc
      rw [HL.out]
      go_wp2_with fail
      go_loop [6, 8, 18] (fun s _ i => ∃ k : Nat, k ≤ xs.length ∧ i = .int .i64 k ∧ s = .int .i64 (signSum (sumTo (invsTo xs xs.length) k))) (fun _ _ i => xs.length - (intOf i).toNat)
      case atStart => exact ⟨0, Nat.zero_le _, rfl, rfl⟩
      case round =>
        obtain ⟨k, hk, rfl, rfl⟩ := hrel
        obtain ⟨r1, r2⟩ := signSum_range (sumTo (invsTo xs xs.length) k)
        by_cases hlt2 : k < xs.length
        · obtain ⟨r3, r4⟩ := invs_range (xs := xs) xs.length k hlt2
          have hcx := HC.out k hlt2
          rw [Nat.zero_add] at hcx
          obtain ⟨c, hcd⟩ : ∃ c, c = (invsTo xs xs.length).getD k 0 := ⟨_, rfl⟩
          rw [← hcd] at hcx r3 r4
          have HS : Hid (sumTo (invsTo xs xs.length) (k + 1) = sumTo (invsTo xs xs.length) k + c) := by
            show sumTo (invsTo xs xs.length) (k + 1) = sumTo (invsTo xs xs.length) k + c
            rw [sumTo, hcd]
          clear hcd
          by_cases ho : c % 2 = 1
          · have hb1 : (c % 2 == 1) = true := by simp [ho]
            have HO := hid (signSum_odd (s := sumTo (invsTo xs xs.length) k) ho)
            clear ho
            go_wp2_with fail
            go_round
            case rel => exact ⟨k + 1, by omega, by go_num, by rw [HS.out, HO.out]⟩
            case measure => simp [intOf]; omega
          · have hb1 : (c % 2 == 1) = false := by simp [ho]
            have HO := hid (signSum_even (s := sumTo (invsTo xs xs.length) k) ho)
            clear ho
            go_wp2_with fail
            go_round
            case rel => exact ⟨k + 1, by omega, by go_num, by rw [HS.out, HO.out]⟩
            case measure => simp [intOf]; omega
        · obtain rfl : k = xs.length := by omega
          go_wp2_with fail
          go_ret2
          exact ⟨ret_nb HP.out.symm (by first | rfl | exact HP2.out.symm), hbu⟩
  · have hp : permB xs = false := by simpa using hp
    have HP := hid (signRes_no hp)
    have HPF := hid hp
    go_enter Try.func83, Try.ntmps83
    go_wp2_with (go_at_call 119; refine (impl_InversionsOf_any _ xs _ h hl hwf).mono ?_; rintro e W1 ⟨u, rfl, hou, hb1⟩)
    go_ret2
    exact ⟨ret_nb HP.out.symm HPF.out.symm, by assumption⟩
end Go.Proofs.Yteenmndgejeihaa
