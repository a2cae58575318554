/- Plain facts on the list of Lyndon words as a sequence. Conditions: lengths 1 to 12, at most 6 letters. -/
import Derived.Test.YtjghjlhjeibfoabLwM
namespace Go.Proofs.Ytjghjlhjeibfoab
set_option linter.unusedVariables false

/-- the word with the index i -/
def wdL (n k : Nat) : Nat → List Int
  | 0 => [0]
  | i + 1 => nxL (wdL n k i) n k
/-- the first i words -/
def wdTo (n k : Nat) : Nat → List (List Int)
  | 0 => []
  | i + 1 => wdTo n k i ++ [wdL n k i]
theorem wdTo_len (n k : Nat) : ∀ i, (wdTo n k i).length = i
  | 0 => rfl
  | i + 1 => by rw [wdTo, List.length_append, wdTo_len n k i]; rfl
theorem wdTo_mem {n k : Nat} : ∀ i, ∀ l ∈ wdTo n k i, ∃ j, j < i ∧ l = wdL n k j
  | 0, l, h => by cases h
  | i + 1, l, h => by
    rw [wdTo] at h
    rcases List.mem_append.1 h with h | h
    · obtain ⟨j, hj, e⟩ := wdTo_mem i l h
      exact ⟨j, by omega, e⟩
    · exact ⟨i, by omega, by simpa using h⟩
theorem lenI_cons {n : Nat} {m : Int} {f : Nat} {w : List Int} (h : w ≠ []) : lenI n m (f + 1) w = lenI n m f (nxI n m w) + 1 := by
  cases w with
  | nil => exact absurd rfl h
  | cons x t => rfl
theorem lenI_nil (n : Nat) (m : Int) (f : Nat) : lenI n m f [] = 0 := by cases f <;> rfl
/-- what a reckoned number of words says -/
theorem lenI_run {n k : Nat} : ∀ f i c, lenI n ((k : Int) - 1) f (wdL n k i) = c → (∀ j, j < c → wdL n k (i + j) ≠ []) ∧ (c < f → wdL n k (i + c) = [])
  | 0, i, c, h => by
    have : c = 0 := by rw [← h]; rfl
    subst this
    exact ⟨fun j hj => by omega, fun h => by omega⟩
  | f + 1, i, c, h => by
    by_cases e : wdL n k i = []
    · rw [e, lenI_nil] at h
      subst h
      exact ⟨fun j hj => by omega, fun _ => e⟩
    · have hl : 1 ≤ (wdL n k i).length := List.length_pos_iff.2 e
      rw [lenI_cons e, nxI_eq hl] at h
      obtain ⟨a, b⟩ := lenI_run f (i + 1) (c - 1) (by show lenI n ((k : Int) - 1) f (nxL (wdL n k i) n k) = c - 1; omega)
      refine ⟨fun j hj => ?_, fun hc => ?_⟩
      · cases j with
        | zero => exact e
        | succ j =>
          have := a j (by omega)
          rwa [show i + 1 + j = i + (j + 1) by omega] at this
      · have := b (by omega)
        rwa [show i + 1 + (c - 1) = i + c by omega] at this
theorem wd_words {n k : Nat} (h1 : 1 ≤ n) (hn : n < 13) (hk1 : 1 ≤ k) (hk : k < 7) : ∀ i, (∀ j, j ≤ i → wdL n k j ≠ []) → 1 ≤ (wdL n k i).length ∧ (wdL n k i).length ≤ n ∧ belL k (wdL n k i)
  | 0, _ => by
    refine ⟨Nat.le_refl _, h1, fun i hi => ?_⟩
    have : i = 0 := by simp [wdL] at hi; omega
    subst this
    show (0 : Int) ≤ 0 ∧ (0 : Int) ≤ (k : Int) - 1
    omega
  | i + 1, h => by
    obtain ⟨a, b, c⟩ := wd_words h1 hn hk1 hk i (fun j hj => h j (by omega))
    exact ⟨List.length_pos_iff.2 (h (i + 1) (Nat.le_refl _)), nxL_len _ _ _, belL_nx c a n⟩
/-- how the sequence ends: C words, C counted -/
structure WdC (n k C : Nat) : Prop where
  some : ∀ j, j < C → wdL n k j ≠ []
  none : wdL n k C = []
theorem up_few {n k : Nat} (h1 : 1 ≤ n) (hn : n < 13) (hk1 : 1 ≤ k) (hk : k < 7) (h : upT k n ≤ 1100) : ∃ C : Nat, (C : Int) = upT k n ∧ C ≤ 1100 ∧ WdC n k C := by
  have ht := len_tab n hn k hk ⟨h1, hk1⟩
  have hb := up_tab k hk n hn
  have hc := lenI_run (n := n) (k := k) 1101 0 _ rfl
  refine ⟨(upT k n).toNat, by omega, by omega, ?_⟩
  have e : lenI n ((k : Int) - 1) 1101 (wdL n k 0) = (upT k n).toNat := by
    show lenI n ((k : Int) - 1) 1101 [0] = _
    omega
  rw [e] at hc
  exact ⟨fun j hj => by have := hc.1 j hj; rwa [Nat.zero_add] at this, by have := hc.2 (by omega); rwa [Nat.zero_add] at this⟩
theorem up_many {n k : Nat} (h1 : 1 ≤ n) (hn : n < 13) (hk1 : 1 ≤ k) (hk : k < 7) (h : ¬ upT k n ≤ 1100) : ∀ j, j ≤ 1100 → wdL n k j ≠ [] := by
  have ht := len_tab n hn k hk ⟨h1, hk1⟩
  have hc := lenI_run (n := n) (k := k) 1101 0 _ rfl
  have e : lenI n ((k : Int) - 1) 1101 (wdL n k 0) = 1101 := by
    show lenI n ((k : Int) - 1) 1101 [0] = _
    omega
  rw [e] at hc
  intro j hj
  have := hc.1 j (by omega)
  rwa [Nat.zero_add] at this
theorem nec_few {n k : Nat} (h1 : 1 ≤ n) (hn : n < 13) (hk1 : 1 ≤ k) (hk : k < 7) (h : necC k n ≤ 1100) : ∃ C : Nat, (C : Int) = upT k n ∧ C ≤ 1319 ∧ WdC n k C := by
  obtain ⟨h2, ht⟩ := nec_up n hn k hk ⟨h1, hk1⟩ h
  have hb := up_tab k hk n hn
  have hc := lenI_run (n := n) (k := k) 1320 0 _ rfl
  refine ⟨(upT k n).toNat, by omega, by omega, ?_⟩
  have e : lenI n ((k : Int) - 1) 1320 (wdL n k 0) = (upT k n).toNat := by
    show lenI n ((k : Int) - 1) 1320 [0] = _
    omega
  rw [e] at hc
  exact ⟨fun j hj => by have := hc.1 j hj; rwa [Nat.zero_add] at this, by have := hc.2 (by omega); rwa [Nat.zero_add] at this⟩
theorem WdC.word {n k C : Nat} (h : WdC n k C) (h1 : 1 ≤ n) (hn : n < 13) (hk1 : 1 ≤ k) (hk : k < 7) {i : Nat} (hi : i < C) : 1 ≤ (wdL n k i).length ∧ (wdL n k i).length ≤ n ∧ belL k (wdL n k i) :=
  wd_words h1 hn hk1 hk i (fun j hj => h.some j (by omega))
theorem WdC.end_iff {n k C : Nat} (h : WdC n k C) {i : Nat} (hi : i < C) : (0 < (wdL n k (i + 1)).length) ↔ i + 1 < C := by
  constructor
  · intro h2
    by_cases e : i + 1 < C
    · exact e
    · have : i + 1 = C := by omega
      rw [this, h.none] at h2; simp at h2
  · intro h2; exact List.length_pos_iff.2 (h.some _ h2)
end Go.Proofs.Ytjghjlhjeibfoab
