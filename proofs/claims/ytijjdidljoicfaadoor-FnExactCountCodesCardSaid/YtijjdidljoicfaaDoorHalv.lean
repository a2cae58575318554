/- Contracts: gcOdd, math/bits.OnesCount, gcHalves and both HalvesOf functions. Conditions: words of at most 10 bits. -/
import Derived.Test.YtijjdidljoicfaaDoorBits
import Derived.Test.YtijjdidljoicfaaDoorHalvM
import Derived.Laws.Bits64b
namespace Go.Proofs.YtijjdidljoicfaaDoor
open Go.RowKit
set_option linter.unusedVariables false

/-- What OnesCount64 reckons, in the model's own operations. -/
def ocI (x : Int) : Int :=
  let a := IntKind.u64.wrap (bits .and .u64 (x / 2) 6148914691236517205 + bits .and .u64 x 6148914691236517205)
  let b := IntKind.u64.wrap (bits .and .u64 (a / 4) 3689348814741910323 + bits .and .u64 a 3689348814741910323)
  let c := bits .and .u64 (IntKind.u64.wrap (b / 16 + b)) 1085102592571150095
  let d := IntKind.u64.wrap (c + c / 256)
  let e := IntKind.u64.wrap (d + d / 65536)
  let f := IntKind.u64.wrap (e + e / 4294967296)
  bits .and .i64 (wrap64 f) 127
set_option maxRecDepth 100000 in
theorem ocI_pop : ∀ x : Nat, x < 1024 → ocI (x : Int) = (popN x : Int) := by decide +kernel
theorem OnesCount64_any (x : Nat) (w : World) (hx : x < 1024) : Calls Tryd.prog 65 #[.int .u64 (x : Int)] w fun e w' => e = .returned (.int .i64 (popN x)) ∧ w = w' := by
  go_enter Tryd.func65, Tryd.ntmps65
  go_wp2
  go_ret
  exact ⟨ret_int (ocI_pop x hx), rfl⟩
theorem gcOdd_any (x : Nat) (w : World) (hx : x < 1024) : Calls Tryd.prog 31 #[.int .i64 (x : Int)] w fun e w' => e = .returned (.bool (oddTo x 10)) ∧ w = w' := by
  have hx0 : (0 : Int) ≤ (x : Int) := by omega
  go_enter Tryd.func31, Tryd.ntmps31
  go_wp2
  go_loop [0, 3] (fun i o => ∃ k : Nat, k ≤ 10 ∧ i = .int .i64 ((x / 2 ^ k : Nat) : Int) ∧ o = .bool (oddTo x k)) (fun i _ => (intOf i).toNat)
  case atStart => exact ⟨0, by omega, by simp, rfl⟩
  case round =>
    obtain ⟨k, hk, rfl, rfl⟩ := hrel
    obtain ⟨y, hy⟩ : ∃ y, y = x / 2 ^ k := ⟨_, rfl⟩
    have hyx : y ≤ x := by rw [hy]; exact Nat.div_le_self _ _
    have HO := hid (show oddTo x (k + 1) = (oddTo x k != decide (y % 2 = 1)) by rw [oddTo, hy])
    have HY := hid hy
    rw [← hy]
    by_cases h0 : y = 0
    · have HE : Hid (oddTo x 10 = oddTo x k) := by
        show _ = _
        rw [odd_pop, odd_pop, show 10 = k + (10 - k) by omega, popTo_end (by rw [← hy]; exact h0)]
      subst h0
      clear hy
      go_wp2
      go_ret
      exact ⟨ret_bool HE.out.symm, rfl⟩
    · have hk9 : k < 10 := by
        by_cases h : k < 10
        · exact h
        · exfalso
          have h10 : k = 10 := by omega
          rw [h10] at hy
          exact h0 (by rw [hy]; exact Nat.div_eq_of_lt hx)
      have hy2 : Hid (y / 2 = x / 2 ^ (k + 1)) := by
        show _ = _
        rw [hy, Nat.pow_succ, Nat.div_div_eq_div_mul]
      clear hy
      have hpos : (0 : Int) < (y : Int) := by omega
      obtain ⟨ob, hob⟩ : ∃ ob, ob = oddTo x k := ⟨_, rfl⟩
      rw [← hob]
      have HOB := hid hob
      clear hob
      by_cases h1 : y % 2 = 1
      · have h1i : ((y : Int) % 2 == 1) = true := by simp; omega
        have h1t : (y : Int).tmod 2 = 1 := by rw [Int.tmod_eq_emod_of_nonneg (by omega)]; omega
        have HB : Hid (oddTo x (k + 1) = (ob != true)) := by show _ = _; rw [HO.out, ← HOB.out, decide_eq_true h1]
        go_wp2
        go_round
        case rel => exact ⟨k + 1, by omega, by rw [← hy2.out]; go_num, by rw [HB.out]; simp⟩
        case measure => simp [intOf]; omega
      · have h1i : ((y : Int) % 2 == 1) = false := by simp; omega
        have h1t : (y : Int).tmod 2 = 0 := by rw [Int.tmod_eq_emod_of_nonneg (by omega)]; omega
        have HB : Hid (oddTo x (k + 1) = (ob != false)) := by show _ = _; rw [HO.out, ← HOB.out, decide_eq_false h1]
        go_wp2
        go_round
        case rel => exact ⟨k + 1, by omega, by rw [← hy2.out]; go_num, by rw [HB.out]; simp⟩
        case measure => simp [intOf]; omega
theorem OnesCount_any (x : Nat) (w : World) (hx : x < 1024) : Calls Tryd.prog 55 #[.int .u64 (x : Int)] w fun e w' => e = .returned (.int .i64 (popN x)) ∧ w = w' := by
  go_enter Tryd.func55, Tryd.ntmps55
  go_wp2_with (first | (go_at_call 65; refine (OnesCount64_any x _ hx).mono ?_; rintro e w' ⟨rfl, rfl⟩) | fail)
  go_ret
  exact ⟨rfl, rfl⟩
theorem popTo_le (x k : Nat) : popTo x k ≤ k := by
  induction k with
  | zero => exact Nat.le_refl _
  | succ k ih => rw [popTo]; omega
/-- how many of the first k words have an odd number of bits set -/
def oddOf (xs : List Int) : Nat → Nat
  | 0 => 0
  | k + 1 => oddOf xs k + popN (xs.getD k 0).toNat % 2
theorem oddOf_le (xs : List Int) (k : Nat) : oddOf xs k ≤ k := by
  induction k with
  | zero => exact Nat.le_refl _
  | succ k ih => rw [oddOf]; omega
/-- all are natural numbers below 1024 -/
def small (xs : List Int) : Prop := ∀ i, i < xs.length → ∃ y : Nat, xs.getD i 0 = (y : Int) ∧ y < 1024
theorem wordsB_small {n : Int} {xs : List Int} (h : wordsB n xs = true) : small xs := by
  obtain ⟨h1, h2, h3⟩ := wordsB_iff.1 h
  intro i hi
  obtain ⟨y, e, _, hy⟩ := word_nat h1 (h3 i hi)
  exact ⟨y, e, hy⟩
theorem gcHalves_any (v : Value) (xs : List Int) (w : World) (h : Sits w v xs) (hs : small xs) (hl : xs.length ≤ 1048576) :
    Calls Tryd.prog 16 #[v] w fun e w' => e = .returned (.tuple #[.int .i64 ((xs.length : Int) - oddOf xs xs.length), .int .i64 (oddOf xs xs.length)]) ∧ w = w' := by
  obtain ⟨b, off, c, rfl, hc1, hm, hb, hc⟩ := h
  have HS := hid hs
  clear hs
  go_enter Tryd.func16, Tryd.ntmps16
  go_wp2
  go_loop [4, 5, 7, 10] (fun ev od _ i => ∃ k : Nat, k ≤ xs.length ∧ i = .int .i64 k ∧ ev = .int .i64 ((k : Int) - oddOf xs k) ∧ od = .int .i64 (oddOf xs k)) (fun _ _ _ i => xs.length - (intOf i).toNat)
  case atStart => exact ⟨0, Nat.zero_le _, rfl, rfl, rfl⟩
  case round =>
    obtain ⟨k, hk, rfl, rfl, rfl⟩ := hrel
    have ho := oddOf_le xs k
    by_cases hlt : k < xs.length
    · obtain ⟨y, hy1, hy2⟩ := HS.out k hlt
      have hO : oddOf xs (k + 1) = oddOf xs k + popN y % 2 := by rw [oddOf, hy1]; rfl
      rw [getD_at hlt] at hy1
      have hcx : w.cell? ⟨b, off + k, none⟩ = some (.int .i64 (y : Int)) := by rw [hc k hlt, hy1]
      have hP : oddTo y 10 = decide (popN y % 2 = 1) := odd_pop y 10
      have HO := hid hO
      obtain ⟨q, hq⟩ : ∃ q, q = oddOf xs k := ⟨_, rfl⟩
      rw [← hq] at ho HO ⊢
      clear hc hy1 hO hq
      by_cases h1 : popN y % 2 = 1
      · have hb1 : oddTo y 10 = true := by rw [hP, decide_eq_true h1]
        have HP1 := hid h1
        clear hP h1
        go_wp2_with (first | (go_at_call 31; refine (gcOdd_any y _ hy2).mono ?_; rintro e w' ⟨rfl, rfl⟩) | fail)
        go_round
        case rel => exact ⟨k + 1, by omega, by go_num, by rw [HO.out, HP1.out]; go_num, by rw [HO.out, HP1.out]; go_num⟩
        case measure => simp [intOf]; omega
      · have hb1 : oddTo y 10 = false := by rw [hP, decide_eq_false h1]
        have HP1 := hid (show popN y % 2 = 0 by omega)
        clear hP h1
        go_wp2_with (first | (go_at_call 31; refine (gcOdd_any y _ hy2).mono ?_; rintro e w' ⟨rfl, rfl⟩) | fail)
        go_round
        case rel => exact ⟨k + 1, by omega, by go_num, by rw [HO.out, HP1.out]; go_num, by rw [HO.out, HP1.out]; go_num⟩
        case measure => simp [intOf]; omega
    · obtain rfl : k = xs.length := by omega
      go_wp2
      go_ret2
      exact ⟨rfl, rfl⟩
def hvE (n : Int) (xs : List Int) : Int := if wordsB n xs = true then (xs.length : Int) - oddOf xs xs.length else 0
def hvO (n : Int) (xs : List Int) : Int := if wordsB n xs = true then (oddOf xs xs.length : Int) else 0
theorem hv_yes {n : Int} {xs : List Int} (h : wordsB n xs = true) : hvE n xs = (xs.length : Int) - oddOf xs xs.length ∧ hvO n xs = (oddOf xs xs.length : Int) := by
  unfold hvE hvO; rw [if_pos h, if_pos h]; exact ⟨rfl, rfl⟩
theorem hv_no {n : Int} {xs : List Int} (h : wordsB n xs = false) : hvE n xs = 0 ∧ hvO n xs = 0 := by
  unfold hvE hvO; rw [if_neg (by rw [h]; simp), if_neg (by rw [h]; simp)]; exact ⟨rfl, rfl⟩
theorem ret_nnb {a b a' b' : Int} {c d : Bool} (h : a = b) (h0 : a' = b') (h' : c = d) : Ending.returned (.tuple #[.int .i64 a, .int .i64 a', .bool c]) = .returned (.tuple #[.int .i64 b, .int .i64 b', .bool d]) := by rw [h, h', h0]
end Go.Proofs.YtijjdidljoicfaaDoor
