/- The walk of the law FnExactAllCombinations. Conditions: none. -/
import Derived.Test.YteejdagnlepegabAllC3
import Derived.Test.YteejdagnlepegabSits
namespace Go.Proofs.Yteejdagnlepegab
open Go.RowKit
set_option linter.unusedVariables false

theorem preLen_same {L M : List (List Int)} (hl : M.length = L.length) (h : ∀ i (a : i < M.length) (b : i < L.length), M[i].length = L[i].length) : ∀ i, preLen M i = preLen L i
  | 0 => rfl
  | i + 1 => by
    rw [preLen, preLen, preLen_same hl h i]
    by_cases hi : i < L.length
    · have hi' : i < M.length := by omega
      have := h i hi' hi
      simp [List.getD_eq_getElem?_getD, hi, hi', this]
    · have hi' : ¬ i < M.length := by omega
      simp [List.getD_eq_getElem?_getD, hi, hi']
theorem preLen_le {L : List (List Int)} {c : Nat} (h : ∀ l ∈ L, l.length ≤ c) : ∀ i, preLen L i ≤ c * i
  | 0 => Nat.le_refl _
  | i + 1 => by
    have ih := preLen_le h i
    have hd : (L.getD i []).length ≤ c := by
      by_cases hi : i < L.length
      · simpa [List.getD_eq_getElem?_getD, hi] using h _ (List.getElem_mem hi)
      · simp [List.getD_eq_getElem?_getD, hi]
    rw [preLen, Nat.mul_succ]; omega
theorem marked_of {L M : List (List Int)} {m : Int} (hl : M.length = L.length) (h : ∀ i (a : i < M.length) (b : i < L.length), M[i] = marks (m + preLen L i) L[i].length) : Marked m M ∧ preLen M M.length = preLen L L.length := by
  have hs : ∀ i (a : i < M.length) (b : i < L.length), M[i].length = L[i].length := fun i a b => by rw [h i a b, marks_length]
  have hp := preLen_same hl hs
  refine ⟨fun i a => ?_, by rw [hp, hl]⟩
  rw [hp, hs i a (by omega)]
  exact h i a (by omega)
theorem preLen_allRes (n k : Int) : preLen (allRes n k) (allRes n k).length ≤ 24000 := by
  cases hB : allB n k with
  | false => rw [allRes_no hB]; exact Nat.zero_le _
  | true =>
    have hB2 := hB
    rw [allB, Bool.and_eq_true] at hB2
    obtain ⟨N, rfl⟩ : ∃ N : Nat, n = N := ⟨n.toNat, by have := inB_iff.1 hB2.1; omega⟩
    obtain ⟨K, rfl⟩ : ∃ K : Nat, k = K := ⟨k.toNat, by have := inB_iff.1 hB2.2; omega⟩
    have hN : N ≤ 12 := by have := inB_iff.1 hB2.1; omega
    have hK : K ≤ 12 := by have := inB_iff.1 hB2.2; omega
    rw [allRes_yes hB]
    have h1 := allL_bound N hN K 0 hK
    have h2 := preLen_le (L := allL N K 0) (c := 12) (fun l hl => by rw [allL_elem N K 0 l hl]; exact hK) (allL N K 0).length
    omega

set_option maxHeartbeats 1000000 in
theorem walk_FnExactAllCombinations (a0 : Int) (a1 : Int) (w : World) (w0 : (Lit.int .i64 a0).wf = true) (w1 : (Lit.int .i64 a1).wf = true) :
    Calls Try.prog 3 #[.int .i64 a0, .int .i64 a1] w fun e w' => e = .returned (.bool true) ∧ Below w.heap.size w w' := by
  have hX := preLen_allRes a0 a1
  obtain ⟨L, hL⟩ : ∃ L, L = allRes a0 a1 := ⟨_, rfl⟩
  have HL := hid hL
  rw [← hL] at hX
  obtain ⟨p, hp⟩ : ∃ p, p = preLen L L.length := ⟨_, rfl⟩
  have HP := hid hp
  rw [← hp] at hX
  have hn2 : ((allB a0 a1) != (allB a0 a1)) = false := by simp
  clear hL hp
  go_enter Try.func3, Try.ntmps3
  go_wp2_with fail
  refine (spec_AllCombinations_any _ _ _ w0 w1).mono ?_
  rintro e W1 ⟨u, rfl, ho, hb⟩
  rw [← HL.out] at ho
  have B1 := hid hb; have U1 := hid ho; clear hb ho
  go_wp2_with fail
  refine (impl_AllCombinations_any _ _ _ w0 w1).mono ?_
  rintro e W2 ⟨g, rfl, ho, hb⟩
  rw [← HL.out] at ho
  have S2 := hid hb.size; have B2 := hid hb; have G2 := hid ho; clear hb ho
  go_wp2_with fail
  refine (eqIntSS_any _ _ L _ _ _ G2.out.lists (U1.out.below B2.out)).mono ?_
  rintro e W3 ⟨rfl, hb⟩
  have S3 := hid (Nat.le_trans S2.out hb.size); have B3 := hid (B2.out.trans (hb.mono S2.out)); have G3 := hid (G2.out.below hb); clear hb
  go_wp2_with fail
  refine (markIntSS_any _ L _ _ _ G3.out (by omega) (by omega) (by rw [← HP.out]; omega)).mono ?_
  rintro e W4 ⟨rfl, M, hM, hMl, hMe, hb, hsz⟩
  rw [← HP.out]
  have S4 := hid (Nat.le_trans S3.out hsz); have B4 := hid (B3.out.trans hb); have G4 := hid hM
  obtain ⟨hmk, hpm⟩ := marked_of hMl hMe
  have HMK := hid hmk
  have HPM := hid (hpm.trans HP.out.symm)
  clear hM hMl hMe hb hsz hmk hpm
  go_wp2_with fail
  refine (heldIntSS_any _ M _ _ _ G4.out.lists HMK.out (by omega) (by omega) (by rw [HPM.out]; omega)).mono ?_
  rintro e W5 ⟨rfl, he⟩
  subst he
  rw [HPM.out]
  go_wp2_with fail
  refine (impl_AllCombinations_any _ _ _ w0 w1).mono ?_
  rintro e W6 ⟨h, rfl, ho, hb⟩
  rw [← HL.out] at ho
  have S6 := hid (Nat.le_trans S4.out hb.size); have B6 := hid (B4.out.trans (hb.mono S4.out)); have G6 := hid (G4.out.below hb); have H6 := hid ho; clear hb ho
  go_wp2_with fail
  refine (eqIntSS_any _ _ L _ _ _ H6.out.lists (U1.out.below B6.out)).mono ?_
  rintro e W7 ⟨rfl, hb⟩
  have B7 := hid (B6.out.trans (hb.mono S6.out)); have G7 := hid (G6.out.below hb); clear hb
  go_wp2_with fail
  refine (heldIntSS_any _ M _ _ _ G7.out.lists HMK.out (by omega) (by omega) (by rw [HPM.out]; omega)).mono ?_
  rintro e W8 ⟨rfl, he⟩
  subst he
  rw [HPM.out]
  go_wp2
  go_ret
  exact ⟨rfl, Below_chain B1.out B7.out⟩
end Go.Proofs.Yteejdagnlepegab
