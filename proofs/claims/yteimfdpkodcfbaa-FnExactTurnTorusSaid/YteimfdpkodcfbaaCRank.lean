/- Contracts: both CombinationRank functions. Conditions: the slice reads as a list of at most 2^20 numbers. -/
import Derived.Test.YteimfdpkodcfbaaCRankM
namespace Go.Proofs.Yteimfdpkodcfbaa
open Go.RowKit
set_option linter.unusedVariables false

def crRes (n : Int) (xs : List Int) : Int := if combB n xs = true then (rankC n.toNat 0 xs : Int) else 0
theorem crRes_yes {n : Int} {xs : List Int} (h : combB n xs = true) : crRes n xs = rankC n.toNat 0 xs := by unfold crRes; rw [if_pos h]
theorem crRes_no {n : Int} {xs : List Int} (h : combB n xs = false) : crRes n xs = 0 := by unfold crRes; rw [if_neg (by rw [h]; simp)]
theorem ret_nb5 {n n' : Int} {b b' : Bool} (hn : n = n') (h : b = b') : Ending.returned (.tuple #[.int .i64 n, .bool b]) = .returned (.tuple #[.int .i64 n', .bool b']) := by rw [h, hn]

/-- how far the outer loop of the rank has come -/
def CrInv (N : Nat) (xs : List Int) (i rank least : Nat) : Prop := rank + rankC N least (xs.drop i) = rankC N 0 xs ∧ RF N least (xs.drop i)
theorem CrInv.step {N : Nat} {xs : List Int} {i rank least : Nat} (h : CrInv N xs i rank least) (hi : i < xs.length) :
    ∃ m : Nat, xs[i] = ((least + m : Nat) : Int) ∧ least + m < N ∧ rank + sumB N (xs.length - 1 - i) least m ≤ rankC N 0 xs ∧ CrInv N xs (i + 1) (rank + sumB N (xs.length - 1 - i) least m) (least + m + 1) := by
  obtain ⟨h1, h2⟩ := h
  rw [List.drop_eq_getElem_cons hi] at h1 h2
  obtain ⟨a1, a2, a3⟩ := h2
  obtain ⟨m, hm⟩ : ∃ m, xs[i].toNat = least + m := ⟨xs[i].toNat - least, by omega⟩
  have hx : xs[i] = ((least + m : Nat) : Int) := by omega
  rw [rankC, hm, List.length_drop, show least + m - least = m by omega, show xs.length - (i + 1) = xs.length - 1 - i by omega] at h1
  rw [hm] at a3
  exact ⟨m, hx, by omega, by omega, by omega, a3⟩
set_option maxHeartbeats 800000 in
theorem impl_CombinationRank_any (n : Int) (v : Value) (xs : List Int) (w : World) (_wn : (Lit.int .i64 n).wf = true) (h : Sits w v xs) (hl : xs.length ≤ 1048576) (_hwf : ∀ x ∈ xs, (Lit.int .i64 x).wf = true) :
    Calls Try.prog 134 #[.int .i64 n, v] w fun e w' => e = .returned (.tuple #[.int .i64 (crRes n xs), .bool (combB n xs)]) ∧ Below w.heap.size w w' := by
  have HR := hid h.reads
  have HS := hid h
  obtain ⟨b, off, c, rfl, hc1, hm, hb, hc⟩ := h
  clear hc
  by_cases hp : combB n xs = true
  · obtain ⟨c1, c2, c3, c4⟩ := RF_comb hp
    obtain ⟨N, rfl⟩ := Int.eq_ofNat_of_zero_le c3
    have HP := hid (crRes_yes hp)
    have HP2 := hid hp
    have hN : N ≤ 12 := by omega
    have c1 : RF N 0 xs := by simpa using c1
    have htot := rankC_le N hN xs 0 c2 c1
    have HI0 : Hid (CrInv N xs 0 0 0) := hid ⟨by simp, by simpa using c1⟩
    clear c1
    go_enter Try.func134, Try.ntmps134
    go_wp2_with fail
    refine (impl_IsCombination_any _ _ xs _ HR.out).mono ?_
    rintro e W1 ⟨rfl, hq⟩
    have hb1 := Drew.below hq w.heap.size
    have hs1 := HS.out.below hb1
    have hb2 : b < W1.heap.size := Nat.lt_of_lt_of_le hb hb1.size
    have HB1 := hid hb1
    obtain ⟨b', off', c', e1, _, _, _, hcW⟩ := hs1
    simp only [Value.slice.injEq, Option.some.injEq, Addr.mk.injEq, and_true, true_and] at e1
    obtain ⟨⟨rfl, rfl⟩, rfl⟩ := e1
    have HC := hid hcW
    clear hcW hq hb1
    go_wp2_with fail
    go_loop [6, 7, 8, 9, 10, 17] (fun rv lv _ _ _ i => ∃ k rank least : Nat, k ≤ xs.length ∧ i = .int .i64 k ∧ rv = .int .i64 rank ∧ lv = .int .i64 least ∧ least ≤ 13 ∧ rank ≤ 2000 ∧ CrInv N xs k rank least) (fun _ _ _ _ _ i => xs.length - (intOf i).toNat)
    case atStart => exact ⟨0, 0, 0, Nat.zero_le _, rfl, rfl, rfl, by omega, by omega, HI0.out⟩
    case round =>
      obtain ⟨k, rank, least, hk, rfl, rfl, rfl, hl13, hr2, hinv⟩ := hrel
      have HINV := hid hinv
      clear hinv
      by_cases hlt : k < xs.length
      · obtain ⟨m, hx, hm2, hle, hnext⟩ := HINV.out.step hlt
        have hcx := HC.out k hlt
        rw [hx] at hcx
        have HN := hid hnext
        have hle2 : rank + sumB N (xs.length - 1 - k) least m ≤ 2000 := Nat.le_trans hle htot
        have ex : (((least + m : Nat) : Int)) = (least : Int) + (m : Int) := by omega
        rw [ex] at hcx
        clear hx hnext hle ex
        go_wp2_with fail
        go_loop [6, 10] (fun rv y => ∃ j : Nat, j ≤ m ∧ y = .int .i64 ((least : Int) + j) ∧ rv = .int .i64 ((rank + sumB N (xs.length - 1 - k) least j : Nat) : Int)) (fun _ y => (least + m) - (intOf y).toNat)
        case atStart => exact ⟨0, Nat.zero_le _, by simp, by simp [sumB]⟩
        case round =>
          obtain ⟨j, hj, rfl, rfl⟩ := hrel
          have hsj := sumB_mono N (xs.length - 1 - k) least hj
          obtain ⟨S, hS⟩ : ∃ S, S = rank + sumB N (xs.length - 1 - k) least j := ⟨_, rfl⟩
          rw [← hS]
          have hS2 : S ≤ 2000 := by omega
          have HSS := hid hS
          clear hsj hS
          by_cases hjm : j < m
          · have hbn : binom (N - 1 - (least + j)) (xs.length - 1 - k) ≤ 924 := binom_le _ (by omega) _ (by omega)
            have HCH : Hid (chooseZ ((N : Int) - 1 - ((least : Int) + (j : Int))) ((xs.length : Int) - 1 - (k : Int)) = binom (N - 1 - (least + j)) (xs.length - 1 - k)) := by
              show chooseZ ((N : Int) - 1 - ((least : Int) + (j : Int))) ((xs.length : Int) - 1 - (k : Int)) = binom (N - 1 - (least + j)) (xs.length - 1 - k)
              rw [show ((N : Int) - 1 - ((least : Int) + (j : Int))) = ((N - 1 - (least + j) : Nat) : Int) by omega, show ((xs.length : Int) - 1 - (k : Int)) = ((xs.length - 1 - k : Nat) : Int) by omega]
              exact chooseZ_nat _ _ (by omega) (by omega)
            obtain ⟨B, hB⟩ : ∃ B, B = binom (N - 1 - (least + j)) (xs.length - 1 - k) := ⟨_, rfl⟩
            rw [← hB] at hbn HCH
            have HBB := hid hB
            clear hB
            go_wp2_with (first | (go_at_call 137; refine (choose_any _ _ _ (by omega) (by omega)).mono ?_; rintro e w' ⟨rfl, rfl⟩; rw [HCH.out]) | fail)
            go_round
            case rel => exact ⟨j + 1, by omega, by go_num, by rw [sumB, ← HBB.out, ← Nat.add_assoc, ← HSS.out]; go_num⟩
            case measure => simp [intOf]; omega
          · obtain rfl : j = m := by omega
            go_wp2_with fail
            go_round
            case rel => exact ⟨k + 1, S, least + j + 1, by omega, by go_num, rfl, by go_num, by omega, hS2, by rw [HSS.out]; exact HN.out⟩
            case measure => simp [intOf]; omega
      · obtain rfl : k = xs.length := by omega
        have HE : Hid (rankC N 0 xs = rank) := by
          show rankC N 0 xs = rank
          have := HINV.out.1
          rw [List.drop_length, rankC] at this
          omega
        go_wp2_with fail
        go_ret2
        exact ⟨ret_nb5 (by rw [HP.out, Int.toNat_natCast, HE.out]) (by first | rfl | exact HP2.out.symm), HB1.out⟩
  · have hp : combB n xs = false := by simpa using hp
    have HP := hid (crRes_no hp)
    have HP2 := hid hp
    go_enter Try.func134, Try.ntmps134
    go_wp2_with (first | (go_at_call 162; refine (impl_IsCombination_any _ _ xs _ HR.out).mono ?_; rintro e W1 ⟨rfl, hq⟩; have HQ := hid (Drew.below hq w.heap.size); clear hq) | fail)
    go_ret2
    exact ⟨ret_nb5 HP.out.symm (by first | rfl | exact HP2.out.symm), HQ.out⟩
end Go.Proofs.Yteimfdpkodcfbaa
