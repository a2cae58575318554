/- Plain facts: permutations of n, each rank once, are all of them, each once. -/
import Derived.Test.YteenmndgejeihaaOnP
import Derived.Test.YteenmndgejeihaaBs3
namespace Go.Proofs.Yteenmndgejeihaa
open Go.RowKit
set_option linter.unusedVariables false

theorem allTo_same {p q : Nat → Bool} {n : Nat} (h : ∀ i, i < n → p i = q i) : allTo n p = allTo n q := by
  rw [Bool.eq_iff_iff, allTo_iff, allTo_iff]
  exact ⟨fun a i hi => by rw [← h i hi]; exact a i hi, fun a i hi => by rw [h i hi]; exact a i hi⟩
theorem pl_PN {N : Nat} {L : List (List Int)} (h : plB (N : Int) L = true) {t : Nat} (ht : t < L.length) : PN N (L.getD t []) := by
  have := (pl_parts h).2 t ht
  exact PN_of this.2 (by omega)
theorem pl_permB {n : Int} {L : List (List Int)} (h : plB n L = true) {t : Nat} (ht : t < L.length) : permB (L.getD t []) = true := ((pl_parts h).2 t ht).2
theorem onG_new4 {N : Nat} {L : List (List Int)} (h : plB (N : Int) L = true) {j : Nat} (hj : j < L.length) : onG rankPRes permB L j = newAt L j := by
  rw [onG, pl_permB h hj, Bool.true_and, newAt, Bool.eq_iff_iff, Bool.not_eq_true', ← Bool.not_eq_true, metG_iff, decide_eq_true_eq, plc_neg]
  constructor
  · intro hn hm
    obtain ⟨i, hi, he⟩ := List.mem_take_iff_getElem.1 hm
    exact hn ⟨i, by omega, by rw [getDM (by omega), he]⟩
  · rintro hn ⟨i, hi, he⟩
    rw [rankPRes_yes (pl_permB h (by omega)), rankPRes_yes (pl_permB h hj)] at he
    have := rk_inj (pl_PN h (t := i) (by omega)) (pl_PN h hj) (by omega)
    exact hn (List.mem_take_iff_getElem.2 ⟨i, by omega, by rw [← this, getDM (by omega)]⟩)
theorem onA_all {N : Nat} {L : List (List Int)} (h : plB (N : Int) L = true) : onA rankPRes permB (fact N) L = alB N L := by
  rw [onA, alB, Bool.and_comm, allTo_same (fun i hi => onG_new4 h hi)]
theorem pl_row {N : Nat} {L : List (List Int)} (hN : N ≤ 5) (h : plB (N : Int) L = true) : ∀ l ∈ L, l.length ≤ 1048576 ∧ ∀ x ∈ l, (Lit.int .i64 x).wf = true := by
  intro l hl
  obtain ⟨i, hi, rfl⟩ := List.mem_iff_getElem.1 hl
  have hP := pl_PN h hi
  rw [getDM hi] at hP
  refine ⟨by rw [hP.len]; omega, fun x hx => ?_⟩
  have := hP.nat hx
  exact WalkArith.wf_i64 (by omega)
theorem pl_rank {N : Nat} {L : List (List Int)} (h : plB (N : Int) L = true) : ∀ l ∈ L, permB l = true → 0 ≤ rankPRes l ∧ rankPRes l < (fact N : Int) := by
  intro l hl hp
  obtain ⟨i, hi, rfl⟩ := List.mem_iff_getElem.1 hl
  have hP := pl_PN h hi
  rw [getDM hi] at hP
  have := rk_lt hP
  rw [rankPRes_yes hp]
  omega
end Go.Proofs.Yteenmndgejeihaa
