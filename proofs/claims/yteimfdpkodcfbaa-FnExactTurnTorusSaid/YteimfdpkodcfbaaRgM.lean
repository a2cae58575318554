/- Plain facts on registers: the letters, that the state at the start comes again, and how many letters there are. No conditions beyond the stated ones. -/
import Derived.Test.YteimfdpkodcfbaaBrM
import Derived.Test.YteimfdpkodcfbaaBnN
namespace Go.Proofs.Yteimfdpkodcfbaa
set_option linter.unusedVariables false

/-- the first k taps, taken at the place b of L -/
def xorL (ts L : List Int) (b : Nat) : Nat → Int
  | 0 => 0
  | t + 1 => (xorL ts L b t + L.getD (b + (ts.getD t 0).toNat) 0) % 2
/-- the first letters: n and j more -/
def regT (ts : List Int) (n : Nat) : Nat → List Int
  | 0 => List.replicate (n - 1) 0 ++ [1]
  | j + 1 => regT ts n j ++ [xorL ts (regT ts n j) j ts.length]
theorem regT_len (ts : List Int) {n : Nat} (h : 1 ≤ n) (j : Nat) : (regT ts n j).length = n + j := by
  induction j with
  | zero => simp [regT]; omega
  | succ j ih => rw [regT, List.length_append, ih]; simp; omega
/-- taps: not empty, beginning with 0, then in 1..n-1 -/
def tapsB (ts : List Int) (n : Int) : Bool := inB n 1 10 && (decide (0 < ts.length) && (decide (ts.getD 0 0 = 0) && risingB ts 0 (n - 1)))
def TapsOk (ts : List Int) (n : Nat) : Prop := 1 ≤ n ∧ n ≤ 10 ∧ 1 ≤ ts.length ∧ ts.length ≤ n ∧ ts.getD 0 0 = 0 ∧ ∀ t, t < ts.length → (t : Int) ≤ ts.getD t 0 ∧ ts.getD t 0 ≤ (n : Int) - 1
/-- letters are bits -/
def Bits01 (L : List Int) : Prop := ∀ i, i < L.length → L.getD i 0 = 0 ∨ L.getD i 0 = 1
theorem bit_out {L : List Int} (h : Bits01 L) (i : Nat) : L.getD i 0 = 0 ∨ L.getD i 0 = 1 := by
  by_cases hi : i < L.length
  · exact h i hi
  · left; simp [List.getD_eq_getElem?_getD, List.getElem?_eq_none (show L.length ≤ i by omega)]
theorem xorL_bit (ts L : List Int) (b k : Nat) : xorL ts L b k = 0 ∨ xorL ts L b k = 1 := by
  cases k with
  | zero => left; rfl
  | succ k => rw [xorL]; omega
theorem regT_bits (ts : List Int) (n j : Nat) : Bits01 (regT ts n j) := by
  induction j with
  | zero =>
    intro i hi
    rw [regT, List.getD_eq_getElem?_getD, List.getElem?_append]
    split
    · left; simp [*] at *
      simp [List.getElem?_replicate]
      split <;> rfl
    · rename_i h1
      have : i - (List.replicate (n - 1) (0 : Int)).length = 0 := by
        simp [regT] at hi h1 ⊢; omega
      rw [this]; right; rfl
  | succ j ih =>
    intro i hi
    rw [regT, List.getD_eq_getElem?_getD, List.getElem?_append]
    split
    · rw [← List.getD_eq_getElem?_getD]; exact bit_out ih i
    · rename_i h1
      rw [regT, List.length_append] at hi
      have : i - (regT ts n j).length = 0 := by simp at hi; omega
      rw [this]
      exact xorL_bit _ _ _ _
theorem regT_keep (ts : List Int) {n : Nat} (h : 1 ≤ n) {i j : Nat} (hj : i < n + j) : (regT ts n (j + 1)).getD i 0 = (regT ts n j).getD i 0 := by
  rw [regT, List.getD_eq_getElem?_getD, List.getElem?_append_left (by rw [regT_len ts h]; exact hj), List.getD_eq_getElem?_getD]
/-- the letter with the index i -/
def regS (ts : List Int) (n i : Nat) : Int := (regT ts n i).getD i 0
theorem regT_add (ts : List Int) {n : Nat} (h : 1 ≤ n) {i j : Nat} (hj : i < n + j) (d : Nat) : (regT ts n (j + d)).getD i 0 = (regT ts n j).getD i 0 := by
  induction d with
  | zero => rfl
  | succ d ih => rw [show j + (d + 1) = (j + d) + 1 from rfl, regT_keep ts h (by omega), ih]
theorem regT_at (ts : List Int) {n : Nat} (h : 1 ≤ n) {i j : Nat} (hj : i < n + j) : (regT ts n j).getD i 0 = regS ts n i := by
  unfold regS
  by_cases e : i ≤ j
  · have := regT_add ts h (i := i) (j := i) (by omega) (j - i)
    rw [← this, show i + (j - i) = j by omega]
  · have := regT_add ts h (i := i) (j := j) hj (i - j)
    rw [← this, show j + (i - j) = i by omega]
theorem regS_bit (ts : List Int) (n i : Nat) : regS ts n i = 0 ∨ regS ts n i = 1 := bit_out (regT_bits ts n i) i
theorem regS_next (ts : List Int) {n : Nat} (h : 1 ≤ n) (j : Nat) : regS ts n (n + j) = xorL ts (regT ts n j) j ts.length := by
  rw [← regT_at ts h (i := n + j) (j := j + 1) (by omega), regT, List.getD_eq_getElem?_getD, List.getElem?_append_right (by rw [regT_len ts h]; exact Nat.le_refl _), regT_len ts h, Nat.sub_self]
  rfl
/-- if all but the first letters are equal and these are not, the next letters are not -/
theorem xor_diff {ts : List Int} {n : Nat} (hT : TapsOk ts n) {a b : Nat} (hr : ∀ i, 1 ≤ i → i < n → regS ts n (a + i) = regS ts n (b + i)) (hne : regS ts n a ≠ regS ts n b) (k : Nat) (h1 : 1 ≤ k) (hk : k ≤ ts.length) :
    xorL ts (regT ts n a) a k ≠ xorL ts (regT ts n b) b k := by
  obtain ⟨hn1, hn, ht1, ht2, h0, hin⟩ := hT
  have key : ∀ (c t : Nat), t < ts.length → (regT ts n c).getD (c + (ts.getD t 0).toNat) 0 = regS ts n (c + (ts.getD t 0).toNat) := fun c t ht => by
    have := hin t ht
    exact regT_at ts hn1 (by omega)
  induction k with
  | zero => omega
  | succ k ih =>
    rw [xorL, xorL, key a k (by omega), key b k (by omega)]
    by_cases e : k = 0
    · subst e
      rw [h0]
      have x1 := regS_bit ts n a
      have x2 := regS_bit ts n b
      simp only [xorL]
      rw [show a + (0 : Int).toNat = a by simp, show b + (0 : Int).toNat = b by simp]
      omega
    · have i1 := ih (by omega) (by omega)
      have i2 := hin k (by omega)
      obtain ⟨t, ht⟩ : ∃ t, t = (ts.getD k 0).toNat := ⟨_, rfl⟩
      rw [← ht, hr t (by omega) (by omega)]
      have x1 := xorL_bit ts (regT ts n a) a k
      have x2 := xorL_bit ts (regT ts n b) b k
      have x3 := regS_bit ts n (b + t)
      omega
theorem back_one {ts : List Int} {n : Nat} (hT : TapsOk ts n) {a b : Nat} (h : ∀ i, i < n → regS ts n (a + 1 + i) = regS ts n (b + 1 + i)) : ∀ i, i < n → regS ts n (a + i) = regS ts n (b + i) := by
  have hr : ∀ i, 1 ≤ i → i < n → regS ts n (a + i) = regS ts n (b + i) := fun i h1 hi => by
    have := h (i - 1) (by omega)
    rwa [show a + 1 + (i - 1) = a + i by omega, show b + 1 + (i - 1) = b + i by omega] at this
  have h0 : regS ts n a = regS ts n b := by
    apply Classical.byContradiction
    intro hne
    have hd := xor_diff hT hr hne ts.length hT.2.2.1 (Nat.le_refl _)
    rw [← regS_next ts hT.1, ← regS_next ts hT.1] at hd
    apply hd
    have := h (n - 1) (by have := hT.1; omega)
    have h1 := hT.1
    rwa [show a + 1 + (n - 1) = n + a by omega, show b + 1 + (n - 1) = n + b by omega] at this
  intro i hi
  by_cases e : i = 0
  · subst e; exact h0
  · exact hr i (by omega) hi
theorem back_all {ts : List Int} {n : Nat} (hT : TapsOk ts n) {a d : Nat} (h : ∀ i, i < n → regS ts n (a + i) = regS ts n (a + d + i)) : ∀ i, i < n → regS ts n (0 + i) = regS ts n (d + i) := by
  induction a with
  | zero => intro i hi; have := h i hi; rwa [show 0 + d + i = d + i by omega] at this
  | succ a ih =>
    refine ih (back_one hT (fun i hi => ?_))
    have := h i hi
    rwa [show a + 1 + d + i = a + d + 1 + i by omega] at this
/-- of so many numbers two are equal -/
theorem pigeon (N : Nat) : ∀ f : Nat → Nat, (∀ i, i ≤ N → f i < N) → ∃ i j, i < j ∧ j ≤ N ∧ f i = f j := by
  induction N with
  | zero => intro f h; have := h 0 (Nat.le_refl _); omega
  | succ N ih =>
    intro f h
    by_cases hx : ∃ i, i ≤ N ∧ f i = f (N + 1)
    · obtain ⟨i, hi, e⟩ := hx
      exact ⟨i, N + 1, by omega, Nat.le_refl _, e⟩
    · obtain ⟨i, j, h1, h2, h3⟩ := ih (fun i => if f i = N then f (N + 1) else f i) (fun i hi => by
        have h4 := h i (by omega)
        have h5 := h (N + 1) (Nat.le_refl _)
        have h6 : f i ≠ f (N + 1) := fun e => hx ⟨i, hi, e⟩
        by_cases e : f i = N
        · rw [if_pos e]; omega
        · rw [if_neg e]; omega)
      refine ⟨i, j, h1, by omega, ?_⟩
      have h6 : f i ≠ f (N + 1) := fun e => hx ⟨i, by omega, e⟩
      have h7 : f j ≠ f (N + 1) := fun e => hx ⟨j, by omega, e⟩
      by_cases e1 : f i = N
      · by_cases e2 : f j = N
        · rw [e1, e2]
        · rw [if_pos e1, if_neg e2] at h3; exact absurd h3.symm h7
      · by_cases e2 : f j = N
        · rw [if_neg e1, if_pos e2] at h3; exact absurd h3 h6
        · rwa [if_neg e1, if_neg e2] at h3
/-- the state at j -/
def regW (ts : List Int) (n j : Nat) : List Int := (regT ts n j).drop j
theorem regW_len (ts : List Int) {n : Nat} (h : 1 ≤ n) (j : Nat) : (regW ts n j).length = n := by rw [regW, List.length_drop, regT_len ts h]; omega
theorem regW_at (ts : List Int) {n : Nat} (h : 1 ≤ n) {i j : Nat} (hi : i < n) : (regW ts n j).getD i 0 = regS ts n (j + i) := by
  rw [regW, List.getD_eq_getElem?_getD, List.getElem?_drop, ← List.getD_eq_getElem?_getD, regT_at ts h (by omega)]
theorem regW_bel (ts : List Int) {n : Nat} (h : 1 ≤ n) (j : Nat) : belK 2 (regW ts n j) := by
  intro i hi
  rw [regW_len ts h] at hi
  rw [regW_at ts h hi]
  have := regS_bit ts n (j + i)
  omega
theorem regW_zero (ts : List Int) (n : Nat) : regW ts n 0 = List.replicate (n - 1) 0 ++ [1] := rfl
theorem reg_comes {ts : List Int} {n : Nat} (hT : TapsOk ts n) : ∃ d, 1 ≤ d ∧ d ≤ 2 ^ n ∧ regW ts n d = regW ts n 0 := by
  have h1 := hT.1
  obtain ⟨i, j, hij, hj, e⟩ := pigeon (2 ^ n) (fun j => numN 2 (regW ts n j) n) (fun i _ => numN_lt (regW_bel ts h1 i) n (by rw [regW_len ts h1]; exact Nat.le_refl _) (by omega))
  have e2 : regW ts n i = regW ts n j := numN_inj (regW_bel ts h1 i) (regW_bel ts h1 j) (regW_len ts h1 i) (regW_len ts h1 j) (by omega) e
  refine ⟨j - i, by omega, by omega, ?_⟩
  refine getD_ext (by rw [regW_len ts h1, regW_len ts h1]) (fun t ht => ?_)
  rw [regW_len ts h1] at ht
  rw [regW_at ts h1 ht, regW_at ts h1 ht]
  refine (back_all hT (a := i) (d := j - i) (fun t ht => ?_) t ht).symm
  rw [← regW_at ts h1 ht, e2, regW_at ts h1 ht, show i + (j - i) + t = j + t by omega]
/-- the first place from j on, among f ones, at which the state at the start stands -/
def perF (ts : List Int) (n : Nat) : Nat → Nat → Nat
  | j, 0 => j
  | j, f + 1 => if regW ts n j = regW ts n 0 then j else perF ts n (j + 1) f
def perN (ts : List Int) (n : Nat) : Nat := perF ts n 1 (2 ^ n)
theorem perF_yes {ts : List Int} {n j f : Nat} (h : regW ts n j = regW ts n 0) (hf : 1 ≤ f) : perF ts n j f = j := by
  obtain ⟨g, rfl⟩ : ∃ g, f = g + 1 := ⟨f - 1, by omega⟩
  rw [perF, if_pos h]
theorem perF_no {ts : List Int} {n j f : Nat} (h : ¬ regW ts n j = regW ts n 0) (hf : 1 ≤ f) : perF ts n j f = perF ts n (j + 1) (f - 1) := by
  obtain ⟨g, rfl⟩ : ∃ g, f = g + 1 := ⟨f - 1, by omega⟩
  rw [perF, if_neg h]; rfl
/-- none of the first j places, and there is one: so there is one behind them -/
def NotYet (ts : List Int) (n j : Nat) : Prop := ∀ i, 1 ≤ i → i ≤ j → ¬ regW ts n i = regW ts n 0
theorem notYet_lt {ts : List Int} {n j : Nat} (hT : TapsOk ts n) (h : NotYet ts n j) : j < 2 ^ n := by
  obtain ⟨d, h1, h2, h3⟩ := reg_comes hT
  apply Classical.byContradiction
  intro hc
  exact h d h1 (by omega) h3
theorem perF_le (ts : List Int) (n : Nat) (f : Nat) : ∀ j, perF ts n j f ≤ j + f := by
  induction f with
  | zero => intro j; rw [perF]; omega
  | succ f ih => intro j; rw [perF]; split
                 · omega
                 · have := ih (j + 1); omega
def regR (ts : List Int) (n : Nat) : List Int := (regT ts n (perN ts n)).take (perN ts n)
theorem regR_len (ts : List Int) {n : Nat} (h : 1 ≤ n) : (regR ts n).length = perN ts n := by rw [regR, List.length_take, regT_len ts h]; omega
theorem perN_le (ts : List Int) (n : Nat) : perN ts n ≤ 1 + 2 ^ n := perF_le ts n (2 ^ n) 1
/-- the state at the start has the number 1 -/
theorem num_start (n : Nat) (j : Nat) (h : j < n) : numN 2 (List.replicate (n - 1) 0 ++ [1]) j = 0 := by
  induction j with
  | zero => rfl
  | succ j ih =>
    have e : (List.replicate (n - 1) (0 : Int) ++ [1]).getD j 0 = 0 := by
      rw [List.getD_eq_getElem?_getD, List.getElem?_append_left (by simp; omega)]
      simp [List.getElem?_replicate]
      split <;> rfl
    rw [numN, ih (by omega), e]; rfl
theorem num_one (ts : List Int) {n : Nat} (h : 1 ≤ n) (j : Nat) : (numN 2 (regW ts n j) n = 1 ↔ regW ts n j = regW ts n 0) := by
  have h0 : numN 2 (regW ts n 0) n = 1 := by
    obtain ⟨m, rfl⟩ : ∃ m, n = m + 1 := ⟨n - 1, by omega⟩
    rw [regW_zero, numN, num_start (m + 1) m (by omega), List.getD_eq_getElem?_getD, List.getElem?_append_right (by simp)]
    simp
  constructor
  · intro e
    exact numN_inj (regW_bel ts h j) (regW_bel ts h 0) (regW_len ts h j) (regW_len ts h 0) (by omega) (by rw [e, h0])
  · intro e; rw [e, h0]
end Go.Proofs.Yteimfdpkodcfbaa
