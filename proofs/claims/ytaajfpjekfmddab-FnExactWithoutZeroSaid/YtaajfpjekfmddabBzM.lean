/- Plain facts: where zeros stand in a de Bruijn word. No conditions beyond the stated ones. -/
import Derived.Test.YtaajfpjekfmddabBnM
import Derived.Test.YtaajfpjekfmddabRgM
import Derived.Test.YtaajfpjekfmddabBr2
namespace Go.Proofs.Ytaajfpjekfmddab
set_option linter.unusedVariables false

def zerL (n : Nat) : List Int := List.replicate n 0
theorem zerL_len (n : Nat) : (zerL n).length = n := by simp [zerL]
theorem zerL_at (n i : Nat) : (zerL n).getD i 0 = 0 := by
  simp [zerL, List.getElem?_replicate]
  split <;> rfl
theorem zerL_bel {k : Nat} (hk : 1 ≤ k) (n : Nat) : belK k (zerL n) := fun i _ => by rw [zerL_at]; omega
theorem zerL_num (k n j : Nat) : numN k (zerL n) j = 0 := by
  induction j with
  | zero => rfl
  | succ j ih => rw [numN, ih, zerL_at]; simp
/-- all letters from p on are zeros -/
def AllZ (xs : List Int) (n p : Nat) : Prop := ∀ i, i < n → xs.getD ((p + i) % xs.length) 0 = 0
theorem far_allZ {xs : List Int} {n p : Nat} : farP xs (zerL n) p ≤ 0 ↔ AllZ xs n p := by
  constructor
  · intro h i hi
    have := farP_zero (xs := xs) (ys := zerL n) (p := p) (by omega) i (by rw [zerL_len]; exact hi)
    rw [← this, zerL_at]
  · intro h
    have : ∀ j, j ≤ n → difT (zerL n) (arL xs p (zerL n).length) j = 0 := by
      intro j
      induction j with
      | zero => intro _; rfl
      | succ j ih =>
        intro hj
        rw [difT, ih (by omega), zerL_at, arL_at (by rw [zerL_len]; omega), h j (by omega), if_pos rfl]
    unfold farP
    rw [zerL_len] at this ⊢
    rw [this n (Nat.le_refl _)]
    exact Nat.le_refl _
theorem winN_allZ {xs : List Int} {n k p : Nat} (hb : belK k xs) (h1 : 1 ≤ xs.length) (hk : 1 ≤ k) : winN xs n k p = 0 ↔ AllZ xs n p := by
  constructor
  · intro h i hi
    have := numN_inj_to (arL_belK hb h1 p n) (zerL_bel hk n) n (by rw [arL_len]; exact Nat.le_refl _) (by rw [zerL_len]; exact Nat.le_refl _) (by rw [zerL_num]; exact h) i hi
    rwa [arL_at hi, zerL_at] at this
  · intro h
    have : arL xs p n = zerL n := getD_ext (by rw [arL_len, zerL_len]) (fun i hi => by
      rw [arL_len] at hi
      rw [arL_at hi, zerL_at, h i hi])
    unfold winN
    rw [this, zerL_num]
theorem bru_len {xs : List Int} {n k : Nat} (h : bruR xs n k = true) : xs.length = k ^ n := by
  unfold bruR at h
  simp only [Bool.and_eq_true, decide_eq_true_eq] at h
  exact h.1
theorem bru_new {xs : List Int} {n k : Nat} (h : bruR xs n k = true) {i j : Nat} (hij : i < j) (hj : j < xs.length) : winN xs n k i ≠ winN xs n k j := by
  unfold bruR difB at h
  simp only [Bool.and_eq_true, allTo_iff, nbsT_len] at h
  have h1 := h.2 j hj
  intro e
  have hm : metG (fun t => (nbsT xs n k xs.length).getD t 0) j ((nbsT xs n k xs.length).getD j 0) = true := metG_iff.2 ⟨i, hij, by rw [nbsT_at (by omega), nbsT_at hj, e]⟩
  unfold newI at h1
  rw [hm] at h1
  cases h1
theorem bru_zero {xs : List Int} {n k : Nat} (h : bruR xs n k = true) (hb : belK k xs) (hk : 2 ≤ k) : ∃ p, p < xs.length ∧ AllZ xs n p := by
  have hl := bru_len h
  have h1 : 1 ≤ xs.length := by
    rw [hl]
    have := Nat.pow_le_pow_left (show 1 ≤ k by omega) n
    rwa [Nat.one_pow] at this
  apply Classical.byContradiction
  intro hc
  have hnz : ∀ p, p < xs.length → winN xs n k p ≠ 0 := fun p hp e => hc ⟨p, hp, (winN_allZ hb h1 (by omega)).1 e⟩
  obtain ⟨i, j, h2, h3, h4⟩ := pigeon (xs.length - 1) (fun p => winN xs n k p - 1) (fun p hp => by
    have h5 := winN_lt hb h1 (by omega) n p
    have h6 := hnz p (by omega)
    rw [← hl] at h5
    show winN xs n k p - 1 < xs.length - 1
    omega)
  have h5 := hnz i (by omega)
  have h6 := hnz j (by omega)
  exact bru_new h h2 (show j < xs.length by omega) (by omega)
theorem bru_one {xs : List Int} {n k p q : Nat} (h : bruR xs n k = true) (hb : belK k xs) (hk : 2 ≤ k) (hp : p < xs.length) (hq : q < xs.length) (h1 : AllZ xs n p) (h2 : AllZ xs n q) : p = q := by
  have hl : 1 ≤ xs.length := by omega
  have e : winN xs n k p = winN xs n k q := by rw [(winN_allZ hb hl (by omega)).2 h1, (winN_allZ hb hl (by omega)).2 h2]
  by_cases e1 : p < q
  · exact absurd e (bru_new h e1 hq)
  · by_cases e2 : q < p
    · exact absurd e.symm (bru_new h e2 hp)
    · omega
theorem mod_back {m p i : Nat} (hm : 1 ≤ m) (hi : 1 ≤ i) : ((p + m - 1) % m + i) % m = (p + (i - 1)) % m := by
  rw [Nat.mod_add_mod, show p + m - 1 + i = p + (i - 1) + m by omega, Nat.add_mod_right]
theorem bru_before {xs : List Int} {n k p : Nat} (h : bruR xs n k = true) (hb : belK k xs) (hk : 2 ≤ k) (hn : 1 ≤ n) (hp : p < xs.length) (h1 : AllZ xs n p) : xs.getD ((p + xs.length - 1) % xs.length) 0 ≠ 0 := by
  intro e
  have hl := bru_len h
  have h2 : 2 ≤ xs.length := by
    rw [hl]
    have := Nat.pow_le_pow_right (show 1 ≤ k by omega) hn
    rw [Nat.pow_one] at this
    omega
  have hz : AllZ xs n ((p + xs.length - 1) % xs.length) := by
    intro i hi
    by_cases e0 : i = 0
    · subst e0
      rw [Nat.add_zero, Nat.mod_mod]
      exact e
    · rw [mod_back (by omega) (by omega)]
      exact h1 (i - 1) (by omega)
  have := bru_one h hb hk hp (Nat.mod_lt _ (by omega)) h1 hz
  by_cases e0 : p = 0
  · subst e0
    rw [Nat.zero_add, Nat.mod_eq_of_lt (by omega)] at this
    omega
  · rw [show p + xs.length - 1 = (p - 1) + xs.length by omega, Nat.add_mod_right, Nat.mod_eq_of_lt (by omega)] at this
    omega
theorem near_at {xs : List Int} {n p : Nat} (h : ∀ q, q < xs.length → (AllZ xs n q ↔ q = p)) (k : Nat) (hk : k ≤ xs.length) : nearT xs (zerL n) 0 k = if p < k then [(p : Int)] else [] := by
  induction k with
  | zero => rfl
  | succ k ih =>
    rw [nearT, ih (by omega)]
    by_cases e : k = p
    · subst e
      rw [if_pos (far_allZ.2 ((h k (by omega)).2 rfl)), if_neg (by omega), if_pos (by omega)]; rfl
    · rw [if_neg (fun hh => e ((h k (by omega)).1 (far_allZ.1 hh))), List.append_nil]
      by_cases e2 : p < k
      · rw [if_pos e2, if_pos (by omega)]
      · rw [if_neg e2, if_neg (by omega)]
/-- the only place at which all zeros stand -/
theorem bru_place {xs : List Int} {n k : Nat} (h : bruR xs n k = true) (hb : belK k xs) (hk : 2 ≤ k) (hn : 1 ≤ n) :
    ∃ p, p < xs.length ∧ nearL xs (zerL n) 0 = [(p : Int)] ∧ (∀ q, q < xs.length → (stB xs (zerL n) q = true ↔ q = p)) ∧ xs.getD ((p + xs.length - 1) % xs.length) 0 ≠ 0 := by
  obtain ⟨p, hp, hz⟩ := bru_zero h hb hk
  have hu : ∀ q, q < xs.length → (AllZ xs n q ↔ q = p) := fun q hq => ⟨fun h1 => bru_one h hb hk hq hp h1 hz, fun e => by rw [e]; exact hz⟩
  refine ⟨p, hp, ?_, fun q hq => ?_, bru_before h hb hk hn hp hz⟩
  · unfold nearL
    rw [near_at hu _ (Nat.le_refl _), if_pos hp]
  · unfold stB
    rw [decide_eq_true_iff, far_allZ]
    exact hu q hq
end Go.Proofs.Ytaajfpjekfmddab
