/- Contracts: sumOf and impl.AdjacentHalves. Conditions: none (of sumOf: at most 12 numbers in 0..11). -/
import Derived.Test.YtijjdidljoicfabHlv
import Derived.Test.YtijjdidljoicfabAllC3
import Derived.Test.YtijjdidljoicfabI3
namespace Go.Proofs.Ytijjdidljoicfab
open Go.RowKit
set_option linter.unusedVariables false

theorem sumOf_any (v : Value) (l : List Int) (w : World) (h : Reads w v l) (hx : ∀ x ∈ l, 0 ≤ x ∧ x < 12) (hl : l.length ≤ 12) :
    Calls Try.prog 47 #[v] w fun e w' => e = .returned (.int .i64 (sumTo l l.length)) ∧ w = w' := by
  have HRG := hid (sumTo_range hx)
  obtain ⟨ao, c, rfl, hc1, hm, h⟩ := h.view
  rcases h with h | ⟨g, off, rfl, hb, hc⟩
  · subst h
    go_enter Try.func47, Try.ntmps47
    go_wp2_with fail
    refine wp_loop_rounds 1 ?_
    rw [rounds_succ]
    go_wp2_with fail
    go_ret
    exact ⟨rfl, rfl⟩
  · have HC := hid hc
    clear hc hx
    go_enter Try.func47, Try.ntmps47
    go_wp2_with fail
    go_loop [3, 5, 8] (fun s _ i => ∃ k : Nat, k ≤ l.length ∧ i = .int .i64 k ∧ s = .int .i64 (sumTo l k)) (fun _ _ i => l.length - (intOf i).toNat)
    case atStart => exact ⟨0, Nat.zero_le _, rfl, rfl⟩
    case round =>
      obtain ⟨k, hk, rfl, rfl⟩ := hrel
      have hrg := HRG.out k hk
      by_cases hlt : k < l.length
      · have hcx := HC.out k hlt
        have hrg2 := HRG.out (k + 1) (by omega)
        have HN := hid (show sumTo l (k + 1) = sumTo l k + l[k] by rw [sumTo, getD_at hlt])
        rw [HN.out] at hrg2
        obtain ⟨x, hx⟩ : ∃ x, x = l[k] := ⟨_, rfl⟩
        rw [← hx] at hcx HN hrg2
        obtain ⟨s, hs⟩ : ∃ s, s = sumTo l k := ⟨_, rfl⟩
        rw [← hs] at HN hrg hrg2 ⊢
        have hww : IntKind.i64.wrap (s + x) = s + x := IntWalk.i64_in _ (by omega)
        clear hx hs
        go_wp2_with fail
        go_round
        case rel => exact ⟨k + 1, by omega, by go_num, by rw [HN.out]⟩
        case measure => simp [intOf]; omega
      · obtain rfl : k = l.length := by omega
        go_wp2_with fail
        go_ret
        exact ⟨rfl, rfl⟩
theorem hlO_step {M : List (List Int)} {t : Nat} {l : List Int} (h : M.getD t [] = l) (h0 : 0 ≤ sumTo l l.length) : hlO M (t + 1) = hlO M t + sumTo l l.length % 2 := by
  rw [hlO, h, evenS]
  by_cases e : sumTo l l.length % 2 = 0
  · rw [if_pos (by simpa using e), e, Int.add_zero]
  · rw [if_neg (by simpa using e)]; omega
set_option maxHeartbeats 1000000 in
theorem impl_AdjacentHalves_any (n k : Int) (w : World) (_wn : (Lit.int .i64 n).wf = true) (_wk : (Lit.int .i64 k).wf = true) :
    Calls Try.prog 19 #[.int .i64 n, .int .i64 k] w fun e w' => e = .returned (.tuple #[.int .i64 (ahE n k), .int .i64 (ahO n k), .bool (szB n k)]) ∧ Below w.heap.size w w' := by
  cases hs : szB n k with
  | true =>
    have HS := hid hs
    obtain ⟨N, K, rfl, rfl, hN, hK⟩ := szB_nat hs
    have HAB := hid (show allB (N : Int) (K : Int) = true by rw [allB, Bool.and_eq_true, inB_iff, inB_iff]; omega)
    have HALL := hid (impl_AllCombinations_any (N : Int) (K : Int) w _wn _wk)
    rw [HAB.out, allRes_yes HAB.out] at HALL
    have HSM := hid (fun l hl => allL_small N K 0 l hl)
    have HEL := hid (fun l hl => allL_elem N K 0 l hl)
    have hbd := allL_bound N hN K 0 (by omega)
    have HE := hid (show ahE (N : Int) (K : Int) = hlE (allL N K 0) (allL N K 0).length by rw [ahE, if_pos hs]; rfl)
    have HO := hid (show ahO (N : Int) (K : Int) = hlO (allL N K 0) (allL N K 0).length by rw [ahO, if_pos hs]; rfl)
    have HRNG := hid (hl_range (allL N K 0))
    obtain ⟨M, hM⟩ : ∃ M, M = allL N K 0 := ⟨_, rfl⟩
    rw [← hM] at HALL HSM HEL hbd HE HO HRNG
    clear hs hM _wn _wk
    go_enter Try.func19, Try.ntmps19
    go_wp2_with (first | (go_at_call 30; refine (isChoice_any _ _ _).mono ?_; rintro e w1 ⟨rfl, rfl⟩; rw [HS.out]) | fail)
    refine HALL.out.mono ?_
    rintro e w1 ⟨u, rfl, hu, hb1⟩
    have HB1 := hid hb1
    have hll := hu.lists
    rcases hll.form with ⟨rfl, hnil⟩ | ⟨g, cap, rfl, _, hg, hc1, hm, hc⟩
    · have HN := hid hnil
      have HE2 := hid (show ahE (N : Int) (K : Int) = 0 by rw [HE.out, HN.out]; rfl)
      have HO2 := hid (show ahO (N : Int) (K : Int) = 0 by rw [HO.out, HN.out]; rfl)
      clear hu hll hnil hb1
      go_wp2_with fail
      refine wp_loop_rounds 1 ?_
      rw [rounds_succ]
      go_wp2_with fail
      go_ret3
      exact ⟨ret_nnb3 HE2.out.symm HO2.out.symm rfl, HB1.out⟩
    · have HC := hid hc
      clear hu hll hc hb1
      go_wp2_with fail
      go_loop [9, 11, 24] (fun o _ i => ∃ t : Nat, t ≤ M.length ∧ i = .int .i64 t ∧ o = .int .i64 (hlO M t)) (fun _ _ i => M.length - (intOf i).toNat)
      case atStart => exact ⟨0, Nat.zero_le _, rfl, rfl⟩
      case round =>
        obtain ⟨t, ht, rfl, rfl⟩ := hrel
        have hrg := HRNG.out t
        by_cases hlt : t < M.length
        · obtain ⟨z, hz, hown⟩ := HC.out t hlt
          have HZ := hid hown.reads
          obtain ⟨l, hl⟩ : ∃ l, l = M[t] := ⟨_, rfl⟩
          rw [← hl] at HZ
          have HLX := hid (show ∀ x ∈ l, 0 ≤ x ∧ x < 12 from fun x hx => by
            have := HSM.out l (by rw [hl]; exact List.getElem_mem _) x hx
            omega)
          have hll : l.length ≤ 12 := by rw [hl, HEL.out _ (List.getElem_mem _)]; omega
          have hsr := sumTo_range HLX.out l.length (Nat.le_refl _)
          have HST := hid (hlO_step (M := M) (t := t) (l := l) (by rw [getDL2 hlt, hl]) hsr.1)
          obtain ⟨s, hs⟩ : ∃ s, s = sumTo l l.length := ⟨_, rfl⟩
          have HSS := hid hs
          rw [← hs] at hsr HST
          obtain ⟨o, ho⟩ : ∃ o, o = hlO M t := ⟨_, rfl⟩
          rw [← ho] at HST hrg ⊢
          have hs0 := hsr.1
          have hm2 : 0 ≤ s % 2 ∧ s % 2 ≤ 1 := by omega
          obtain ⟨r, hr⟩ : ∃ r, r = s % 2 := ⟨_, rfl⟩
          have HR := hid hr
          rw [← hr] at HST hm2
          have hww : IntKind.i64.wrap (o + r) = o + r := IntWalk.i64_in _ (by omega)
          have htm : s.tmod 2 = r := by rw [hr]; exact Int.tmod_eq_emod_of_nonneg hs0
          have hwr : IntKind.i64.wrap r = r := IntWalk.i64_in _ (by omega)
          clear hown hl hs ho hr hsr
          go_wp2_with (first | (go_at_call 47; refine (sumOf_any _ l _ HZ.out HLX.out hll).mono ?_; rintro e w2 ⟨rfl, rfl⟩; rw [← HSS.out]) | fail)
          go_round
          case rel => exact ⟨t + 1, by omega, by go_num, by first | (rw [HST.out]; done) | (rw [HST.out, HR.out])⟩
          case measure => simp [intOf] <;> omega
        · obtain rfl : t = M.length := by omega
          have HEV := hid (show (M.length : Int) - hlO M M.length = hlE M M.length by omega)
          obtain ⟨o, ho⟩ : ∃ o, o = hlO M M.length := ⟨_, rfl⟩
          rw [← ho] at HEV hrg HO ⊢
          have hww : IntKind.i64.wrap ((M.length : Int) - o) = (M.length : Int) - o := IntWalk.i64_in _ (by omega)
          clear ho
          go_wp2_with fail
          go_ret3
          exact ⟨ret_nnb3 (by rw [HE.out, HEV.out]) HO.out.symm rfl, HB1.out⟩
  | false =>
    have HS := hid hs
    have HE := hid (show ahE n k = 0 by rw [ahE, if_neg (by rw [hs]; simp)])
    have HO := hid (show ahO n k = 0 by rw [ahO, if_neg (by rw [hs]; simp)])
    clear hs
    go_enter Try.func19, Try.ntmps19
    go_wp2_with (first | (go_at_call 30; refine (isChoice_any _ _ _).mono ?_; rintro e w1 ⟨rfl, rfl⟩; rw [HS.out]) | fail)
    go_ret3
    exact ⟨ret_nnb3 HE.out.symm HO.out.symm rfl, Below.refl _ _⟩
end Go.Proofs.Ytijjdidljoicfab
