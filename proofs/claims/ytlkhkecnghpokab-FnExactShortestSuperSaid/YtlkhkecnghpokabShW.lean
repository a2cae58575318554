/- Contracts: both ShortestSuper functions. Conditions: none. -/
import Derived.Test.YtlkhkecnghpokabShM
import Derived.Test.YtlkhkecnghpokabSo3
import Derived.Test.YtlkhkecnghpokabSu3
namespace Go.Proofs.Ytlkhkecnghpokab
open Go.RowKit
set_option linter.unusedVariables false
set_option maxRecDepth 4000

def shB (n : Int) : Bool := inB n 1 3
def shR (n : Int) : List Int := if shB n = true then supL (n.toNat - 1) else []
theorem shR_no {n : Int} (h : shB n = false) : shR n = [] := by unfold shR; rw [if_neg (by rw [h]; simp)]
theorem shR_yes {m : Nat} (h : shB (m : Int) = true) : shR (m : Int) = supL (m - 1) := by unfold shR; rw [if_pos h, Int.toNat_natCast]
theorem shB_nat {n : Int} (h : shB n = true) : ∃ m : Nat, n = (m : Int) ∧ 1 ≤ m ∧ m ≤ 3 := by
  have := inB_iff.1 h
  exact ⟨n.toNat, by omega, by omega, by omega⟩
theorem bound_ShortestSuper (n : Int) : (shR n).length ≤ 1048576 := by
  cases h : shB n with
  | false => rw [shR_no h]; simp
  | true =>
    obtain ⟨m, rfl, h1, h3⟩ := shB_nat h
    rw [shR_yes h]
    have := sup_len (m - 1) (by omega)
    omega
theorem isS_at (m s k : Nat) : (((firL m (cntL m s k) (wnN (m : Int) (cntL m s k))).length : Int) == (fact m : Int)) = isS m s k := by
  rw [wnN_nat, cntL_length]
  unfold isS
  rw [Bool.eq_iff_iff, beq_iff_eq, decide_eq_true_eq]
  omega
theorem pow_le9 {m s : Nat} (h1 : 1 ≤ m) (h3 : m ≤ 3) (hs : s ≤ 10) : m ^ s ≤ 59049 := by
  have h2 : m ^ s ≤ 3 ^ s := Nat.pow_le_pow_left h3 s
  have h4 : 3 ^ s ≤ 3 ^ 10 := Nat.pow_le_pow_right (by omega) hs
  have : 3 ^ 10 = 59049 := rfl
  omega
set_option maxHeartbeats 1000000 in
theorem spec_ShortestSuper_any (n : Int) (w : World) (_hwf : (Lit.int .i64 n).wf = true) :
    Calls Try.prog 30 #[.int .i64 n] w fun e w' => ∃ u, e = .returned (.tuple #[u, .bool (shB n)]) ∧ Own w' w.heap.size u (shR n) ∧ Below w.heap.size w w' := by
  cases hn : shB n with
  | false =>
    have HR := hid (shR_no hn)
    have HN := hid (show inB n 1 3 = false from hn)
    go_enter Try.func30, Try.ntmps30
    go_wp2_with (first | (go_at_call 58; (refine (l1In_any _ _ _ _).mono ?_); (rintro e w' ⟨rfl, rfl⟩); (rw [HN.out])) | fail)
    go_ret2
    exact ⟨_, rfl, by rw [HR.out]; exact Own.nil _ _, Below.refl _ _⟩
  | true =>
    obtain ⟨m, rfl, h1, h3⟩ := shB_nat hn
    have HR := hid (shR_yes hn)
    have HN := hid (show inB (m : Int) 1 3 = true from hn)
    have HF := hid (sh_f h1 h3)
    have HPW := hid (fun s (hs : s ≤ 10) => pow_le9 (m := m) (s := s) h1 h3 hs)
    have hT1 := HF.out.one
    have hT9 := HF.out.nine
    obtain ⟨T, hT⟩ : ∃ T, T = shT m := ⟨_, rfl⟩
    obtain ⟨K, hK⟩ : ∃ K, K = shK m := ⟨_, rfl⟩
    rw [← hT] at hT1 hT9
    have HSH := hid (show ∀ s, 1 ≤ s → s < T → ∀ k, k < m ^ s → isS m s k = false from fun s a b c d => HF.out.short s a (by rw [← hT]; exact b) c d)
    have HBE := hid (show ∀ k, k < K → isS m T k = false from fun k hk => by rw [hT]; exact HF.out.before k (by rw [← hK]; exact hk))
    have HFO := hid (show isS m T K = true by rw [hT, hK]; exact HF.out.found)
    have HWD := hid (show cntL m T K = supL (m - 1) by rw [hT, hK]; exact HF.out.word)
    have HTH := hid (show K < m ^ T by rw [hT, hK]; exact HF.out.there)
    have hm5 : m ≤ 5 := by omega
    clear hn hT hK HF
    go_enter Try.func30, Try.ntmps30
    go_wp2_with (first | (go_at_call 58; (refine (l1In_any _ _ _ _).mono ?_); (rintro e w' ⟨rfl, rfl⟩); (rw [HN.out])) | fail)
    go_loopw [4, 5] (fun z a wr => ∃ s A : Nat, z = .int .i64 (s : Int) ∧ a = .int .i64 (A : Int) ∧ 1 ≤ s ∧ s ≤ T ∧ A = m ^ s ∧ Below w.heap.size w wr) (fun z _ _ => T - (intOf z).toNat)
    case atStart => exact ⟨1, m, rfl, rfl, Nat.le_refl _, hT1, by simp, Below.refl _ _⟩
    case round =>
      obtain ⟨s, A, rfl, rfl, hs1, hsT, hA, hbel⟩ := hrel
      have HB := hid hbel
      have hA9 := HPW.out s (by omega)
      rw [← hA] at hA9
      have HA := hid hA
      have hs6 : s ≤ 1048576 := by omega
      have hm6 : m ≤ 1048576 := by omega
      clear hbel hA
      go_wp2_with fail
      rename_i wout
      go_loopw [6] (fun i wr => ∃ k : Nat, i = .int .i64 (k : Int) ∧ k ≤ A ∧ (s = T → k ≤ K) ∧ Below w.heap.size w wr) (fun i _ => A - (intOf i).toNat)
      case atStart => exact ⟨0, rfl, Nat.zero_le _, fun _ => Nat.zero_le _, HB.out⟩
      case round =>
        obtain ⟨k, rfl, hk, hkT, hbel⟩ := hrel
        have HB2 := hid hbel
        have HKT := hid hkT
        clear hbel hkT
        by_cases hlt : k < A
        · have hk6 : k ≤ 1048576 := by omega
          have HLN := hid (cntL_length m s k)
          cases hi : isS m s k with
          | true =>
            have HS := hid (show s = T by
              rcases Nat.lt_or_ge s T with q | q
              · have := HSH.out s hs1 q k (by rw [← HA.out]; exact hlt)
                rw [hi] at this; simp at this
              · omega)
            have HKK := hid (show k = K by
              have h2 := HKT.out HS.out
              rcases Nat.lt_or_ge k K with q | q
              · have := HBE.out k q
                rw [← HS.out, hi] at this; simp at this
              · omega)
            have HISA := hid ((isS_at m s k).trans hi)
            go_wp2_with (first
              | (go_at_call 59; (refine (suCount_any s m k _ hs6 h1 hm6 hk6).mono ?_); (rintro e w3 ⟨rfl, ho3, hb3⟩); (have HO3 := hid ho3); (have HB3 := hid (Below_chain HB2.out hb3)); (clear ho3 hb3))
              | (go_at_call 47; (refine (suSuper_any m _ (cntL m s k) _ (HO3.out.reads.sits (by rw [HLN.out]; omega)) h1 hm5 (by rw [HLN.out]; omega)).mono ?_); (rintro e w4 ⟨rfl, hb4⟩); (rw [HISA.out]); (have HO4 := hid (HO3.out.below hb4)); (have HB4 := hid (Below_chain HB3.out hb4)); (clear hb4))
              | fail)
            go_ret2
            exact ⟨_, rfl, by rw [HR.out, ← HWD.out, ← HS.out, ← HKK.out]; exact HO4.out.mono HB2.out.size, HB4.out⟩
          | false =>
            have HISA := hid ((isS_at m s k).trans hi)
            have HNX := hid (show s = T → k + 1 ≤ K by
              intro hs
              have h2 := HKT.out hs
              rcases Nat.lt_or_ge k K with q | q
              · exact q
              · exfalso
                have : k = K := by omega
                subst this
                have h4 := HFO.out
                rw [← hs, hi] at h4; simp at h4)
            go_wp2_with (first
              | (go_at_call 59; (refine (suCount_any s m k _ hs6 h1 hm6 hk6).mono ?_); (rintro e w3 ⟨rfl, ho3, hb3⟩); (have HO3 := hid ho3); (have HB3 := hid (Below_chain HB2.out hb3)); (clear ho3 hb3))
              | (go_at_call 47; (refine (suSuper_any m _ (cntL m s k) _ (HO3.out.reads.sits (by rw [HLN.out]; omega)) h1 hm5 (by rw [HLN.out]; omega)).mono ?_); (rintro e w4 ⟨rfl, hb4⟩); (rw [HISA.out]); (have HB4 := hid (Below_chain HB3.out hb4)); (clear hb4))
              | fail)
            go_roundw
            case rel => exact ⟨k + 1, by go_num, hlt, HNX.out, HB4.out⟩
            case measure => simp [intOf]; omega
        · have hsT2 : s < T := by
            rcases Nat.lt_or_ge s T with q | q
            · exact q
            · exfalso
              have e : s = T := by omega
              have h2 := HKT.out e
              have h4 := HTH.out
              rw [← e, ← HA.out] at h4
              omega
          obtain ⟨B, hB⟩ : ∃ B, B = A * m := ⟨_, rfl⟩
          have HBM := hid (show B = m ^ (s + 1) by rw [Nat.pow_succ, ← HA.out, hB])
          have e1 : (A : Int) * (m : Int) = (B : Int) := by rw [hB]; simp
          have hB9 : B ≤ 59049 := by rw [HBM.out]; exact HPW.out (s + 1) (by omega)
          have u1 : IntKind.i64.wrap (B : Int) = (B : Int) := IntWalk.i64_in _ (by omega)
          clear hB
          go_wp2_with fail
          go_roundw
          case rel => exact ⟨s + 1, B, by go_num, by go_num, by omega, hsT2, HBM.out, HB2.out⟩
          case measure => simp [intOf]; omega
theorem impl_ShortestSuper_any (n : Int) (w : World) (_hwf : (Lit.int .i64 n).wf = true) :
    Calls Try.prog 31 #[.int .i64 n] w fun e w' => ∃ u, e = .returned (.tuple #[u, .bool (shB n)]) ∧ Own w' w.heap.size u (shR n) ∧ Below w.heap.size w w' := by
  cases hn : suNB n with
  | false =>
    have HS := hid (show shB n = false by
      cases e : shB n with
      | false => rfl
      | true =>
        have h1 := inB_iff.1 e
        have h2 := suNB_iff (n := n)
        rw [hn] at h2
        exact absurd (h2.2 (by omega)) (by simp))
    have HR := hid (shR_no HS.out)
    go_enter Try.func31, Try.ntmps31
    go_wp2_with (first | (go_at_call 50; (refine (isSuperSize_any _ _).mono ?_); (rintro e w' ⟨rfl, rfl⟩); (rw [hn])) | fail)
    go_ret2
    exact ⟨_, ret_sb HS.out.symm, by rw [HR.out]; exact Own.nil _ _, Below.refl _ _⟩
  | true =>
    have hr := suNB_iff.1 hn
    by_cases h3 : 3 < n
    · have HS := hid (show shB n = false by
        cases e : shB n with
        | false => rfl
        | true => have h1 := inB_iff.1 e; omega)
      have HR := hid (shR_no HS.out)
      go_enter Try.func31, Try.ntmps31
      go_wp2_with (first | (go_at_call 50; (refine (isSuperSize_any _ _).mono ?_); (rintro e w' ⟨rfl, rfl⟩); (rw [hn])) | fail)
      go_ret2
      exact ⟨_, ret_sb HS.out.symm, by rw [HR.out]; exact Own.nil _ _, Below.refl _ _⟩
    · obtain ⟨m, rfl, h1, h5⟩ := suNB_nat hn
      have HS := hid (show shB (m : Int) = true from inB_iff.2 (by omega))
      obtain ⟨k, hk⟩ : ∃ k, m = k + 1 := ⟨m - 1, by omega⟩
      have HR := hid (show shR (m : Int) = supL k by rw [shR_yes HS.out, hk, Nat.add_sub_cancel])
      have HK := hid hk
      have hk5 : k < 5 := by omega
      clear hk hr
      go_enter Try.func31, Try.ntmps31
      go_wp2_with (first | (go_at_call 50; (refine (isSuperSize_any _ _).mono ?_); (rintro e w' ⟨rfl, rfl⟩); (rw [hn])) | (go_at_call 56; (refine (superOf_any k m _ HK.out hk5).mono ?_); (rintro e w2 ⟨u, rfl, ho, hb⟩); (have HO := hid ho); (have HB := hid hb); (clear ho hb)) | fail)
      go_ret2
      exact ⟨_, ret_sb HS.out.symm, by rw [HR.out]; exact HO.out, HB.out⟩
end Go.Proofs.Ytlkhkecnghpokab
