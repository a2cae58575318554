/- Contracts: both PermutationRank functions. Conditions: the slice reads as a list of at most 2^20 numbers. -/
import Derived.Test.YtgfafnejgbblhaaRank1
import Derived.Test.YtgfafnejgbblhaaPerm1
namespace Go.Proofs.Ytgfafnejgbblhaa
open Go.RowKit
set_option linter.unusedVariables false

theorem ret_nb2 {n n' : Int} {b b' : Bool} (hn : n = n') (h : b = b') : Ending.returned (.tuple #[.int .i64 n, .bool b]) = .returned (.tuple #[.int .i64 n', .bool b']) := by rw [h, hn]
def rankPRes (xs : List Int) : Int := if permB xs = true then (rankR xs : Int) else 0
theorem rankPRes_yes {xs : List Int} (h : permB xs = true) : rankPRes xs = rankR xs := by unfold rankPRes; rw [if_pos h]
theorem rankPRes_no {xs : List Int} (h : permB xs = false) : rankPRes xs = 0 := by unfold rankPRes; rw [if_neg (by rw [h]; simp)]

def hornerTo (xs : List Int) : Nat → Nat
  | 0 => 0
  | k + 1 => hornerTo xs k * (xs.length - k) + countLt (xs.drop (k + 1)) (xs.getD k 0)
theorem horner_inv (xs : List Int) (k : Nat) (h : k ≤ xs.length) : hornerTo xs k * fact (xs.length - k) + rankR (xs.drop k) = rankR xs := by
  induction k with
  | zero => simp [hornerTo]
  | succ k ih =>
    have h1 := ih (by omega)
    have hk : k < xs.length := by omega
    rw [List.drop_eq_getElem_cons hk, rankR, countLt_cons, List.length_drop] at h1
    rw [hornerTo, getD_at hk]
    have e1 : xs.length - k = (xs.length - (k + 1)) + 1 := by omega
    rw [e1] at h1 ⊢
    rw [fact] at h1
    rw [Nat.add_mul, Nat.mul_assoc]
    have e2 : xs.length - (k + 1) + 1 = xs.length - (k + 1) + 1 := rfl
    omega
theorem horner_le {xs : List Int} (k : Nat) (h : k ≤ xs.length) (hl : xs.length ≤ 12) : hornerTo xs k ≤ 479001600 := by
  have h1 := horner_inv xs k h
  have h2 := rankR_lt xs
  have h3 := fact_le xs.length (by omega)
  have h4 := fact_pos (xs.length - k) (by omega)
  have h5 : hornerTo xs k * 1 ≤ hornerTo xs k * fact (xs.length - k) := Nat.mul_le_mul_left _ h4
  omega
theorem horner_end (xs : List Int) : hornerTo xs xs.length = rankR xs := by
  have := horner_inv xs xs.length (Nat.le_refl _)
  simpa [rankR, fact] using this

theorem spec_PermutationRank_any (v : Value) (xs : List Int) (w : World) (h : Sits w v xs) (hl : xs.length ≤ 1048576) (_hwf : ∀ n ∈ xs, (Lit.int .i64 n).wf = true) :
    Calls Try.prog 42 #[v] w fun e w' => e = .returned (.tuple #[.int .i64 (rankPRes xs), .bool (permB xs)]) ∧ Below w.heap.size w w' := by
  have HS := hid h
  have HR := hid h.reads
  clear h
  by_cases hp : permB xs = true
  · have HP := hid (rankPRes_yes hp)
    have HP2 := hid hp
    have h12 := permB_len hp
    go_enter Try.func42, Try.ntmps42
    go_wp2_with (first | (go_at_call 64; refine (raPermutation_any _ xs _ HR.out).mono ?_; rintro e w' ⟨rfl, rfl⟩) | (go_at_call 65; refine (raRank_any xs _ _ h12 HS.out).mono ?_; rintro e w' ⟨rfl, hq⟩; have hbu := Drew.below hq w.heap.size))
    go_ret2
    exact ⟨ret_nb2 HP.out.symm (by first | rfl | exact HP2.out.symm), by assumption⟩
  · have hp : permB xs = false := by simpa using hp
    have HP := hid (rankPRes_no hp)
    have HP2 := hid hp
    go_enter Try.func42, Try.ntmps42
    go_wp2_with (first | (go_at_call 64; refine (raPermutation_any _ xs _ HR.out).mono ?_; rintro e w' ⟨rfl, rfl⟩))
    go_ret2
    exact ⟨ret_nb2 HP.out.symm (by first | rfl | exact HP2.out.symm), Below.refl _ _⟩
theorem impl_PermutationRank_any (v : Value) (xs : List Int) (w : World) (h : Sits w v xs) (hl : xs.length ≤ 1048576) (_hwf : ∀ n ∈ xs, (Lit.int .i64 n).wf = true) :
    Calls Try.prog 43 #[v] w fun e w' => e = .returned (.tuple #[.int .i64 (rankPRes xs), .bool (permB xs)]) ∧ Below w.heap.size w w' := by
  have HR := hid h.reads
  have HS := hid h
  obtain ⟨b, off, c, rfl, hc1, hm, hb, hc⟩ := h
  clear hc
  by_cases hp : permB xs = true
  · have HP := hid (rankPRes_yes hp)
    have HP2 := hid hp
    have h12 := permB_len hp
    go_enter Try.func43, Try.ntmps43
    go_wp2_with fail
    refine (impl_IsPermutation_any _ xs _ HR.out).mono ?_
    rintro e W1 ⟨rfl, hb1⟩
    have hs1 := HS.out.below hb1
    have hb2 : b < W1.heap.size := Nat.lt_of_lt_of_le hb hb1.size
    obtain ⟨b', off', c', e1, _, _, _, hcW⟩ := hs1
    simp only [Value.slice.injEq, Option.some.injEq, Addr.mk.injEq, and_true, true_and] at e1
    obtain ⟨⟨rfl, rfl⟩, rfl⟩ := e1
    have HC := hid hcW
    clear hcW
    go_wp2_with fail
    go_loop [4, 5, 6, 12] (fun n _ _ i => ∃ k : Nat, k ≤ xs.length ∧ i = .int .i64 k ∧ n = .int .i64 (hornerTo xs k)) (fun _ _ _ i => xs.length - (intOf i).toNat)
    case atStart => exact ⟨0, Nat.zero_le _, rfl, rfl⟩
    case round =>
      obtain ⟨k, hk, rfl, rfl⟩ := hrel
      have hh := horner_le k hk h12
      by_cases hlt : k < xs.length
      · have hcx := HC.out k hlt
        have hh2 := horner_le (k + 1) hlt h12
        have HH := hid (show hornerTo xs (k + 1) = hornerTo xs k * (xs.length - k) + countLt (xs.drop (k + 1)) xs[k] by rw [hornerTo, getD_at hlt])
        rw [HH.out] at hh2
        have hcl := countLt_le (xs.drop (k + 1)) xs[k]
        have hdl : (xs.drop (k + 1)).length ≤ 12 := by rw [List.length_drop]; omega
        have e3 : ((xs.length - k : Nat) : Int) = (xs.length : Int) - k := by omega
        have m1 : (hornerTo xs k : Int) * ((xs.length : Int) - k) ≤ 479001600 := by
          rw [← e3]; exact cast_mul_le (c := 479001600) (by omega)
        have m0 : 0 ≤ (hornerTo xs k : Int) * ((xs.length : Int) - k) := Int.mul_nonneg (by omega) (by omega)
        obtain ⟨C, hC⟩ : ∃ C, C = countLt (xs.drop (k + 1)) xs[k] := ⟨_, rfl⟩
        rw [← hC] at hcl hh2
        have HCC := hid hC
        have hc12 : C ≤ 12 := by omega
        have E3 := hid e3
        clear hC hh2 e3 hcl hdl
        by_cases hcap : c = k + 1
        · have hS : Sits W1 (.slice (some ⟨b, off, none⟩) 0 0) (xs.drop (k + 1)) := by
            rw [List.drop_eq_nil_of_le (by omega)]
            exact ⟨b, off, 0, rfl, Nat.le_refl _, by omega, hb2, fun i hi => absurd hi (by simp)⟩
          have HSS := hid hS
          subst hcap
          clear hS
          go_wp2_with (go_at_call 66; refine (countRelated_lt _ (xs.drop (k + 1)) _ _ HSS.out).mono ?_; rintro e w' ⟨rfl, rfl⟩; rw [← HCC.out])
          go_round
          case rel => exact ⟨k + 1, by omega, by go_num, by rw [HH.out, Int.natCast_add, Int.natCast_mul, E3.out, ← HCC.out]⟩
          case measure => simp [intOf]; omega
        · have hS : Sits W1 (.slice (some ⟨b, off + (k + 1), none⟩) (xs.length - (k + 1)) (c - (k + 1))) (xs.drop (k + 1)) :=
            Sits_drop (k + 1) (by omega) hc1 hm hb2 HC.out
          have HSS := hid hS
          clear hS
          go_wp2_with (go_at_call 66; refine (countRelated_lt _ (xs.drop (k + 1)) _ _ HSS.out).mono ?_; rintro e w' ⟨rfl, rfl⟩; rw [← HCC.out])
          go_round
          case rel => exact ⟨k + 1, by omega, by go_num, by rw [HH.out, Int.natCast_add, Int.natCast_mul, E3.out, ← HCC.out]⟩
          case measure => simp [intOf]; omega
      · obtain rfl : k = xs.length := by omega
        have HE := hid (horner_end xs)
        go_wp2_with fail
        go_ret2
        exact ⟨ret_nb2 (by rw [HP.out, HE.out]) (by first | rfl | exact HP2.out.symm), hb1⟩
  · have hp : permB xs = false := by simpa using hp
    have HP := hid (rankPRes_no hp)
    have HP2 := hid hp
    go_enter Try.func43, Try.ntmps43
    go_wp2_with (go_at_call 41; refine (impl_IsPermutation_any _ xs _ HR.out).mono ?_; rintro e W1 ⟨rfl, hb1⟩)
    go_ret2
    exact ⟨ret_nb2 HP.out.symm (by first | rfl | exact HP2.out.symm), by assumption⟩
end Go.Proofs.Ytgfafnejgbblhaa
