/- Balanced words as a shape, as plain functions: counts, which words there are, their ranks. No conditions. -/
import Derived.Test.YtakelcboamjndaaShR
import Derived.Test.YtakelcboamjndaaShL
namespace Go.Proofs.Ytakelcboamjndaa
open Go.RowKit Go.Maps
set_option linter.unusedVariables false

def clRow (f : Nat → Nat) : Nat → Nat
  | 0 => f 1
  | i + 1 => f (i + 2) + clRow f i
/-- the ways to end a balanced word with i open by n ones and the zeros that are needed -/
def cl : Nat → Nat → Nat
  | 0 => fun _ => 1
  | n + 1 => clRow (cl n)
theorem cl_zero (i : Nat) : cl 0 i = 1 := rfl
theorem cl_first (n : Nat) : cl (n + 1) 0 = cl n 1 := rfl
theorem cl_next (n i : Nat) : cl (n + 1) (i + 1) = cl n (i + 2) + cl (n + 1) i := rfl
theorem cl_le : ∀ n i, cl n i ≤ 2 ^ (2 * n + i)
  | 0, i => by rw [cl_zero]; exact Nat.one_le_two_pow
  | n + 1, 0 => by
    rw [cl_first]
    refine Nat.le_trans (cl_le n 1) (Nat.pow_le_pow_right (by omega) (by omega))
  | n + 1, i + 1 => by
    rw [cl_next]
    have h1 := cl_le n (i + 2)
    have h2 := cl_le (n + 1) i
    have e : 2 ^ (2 * (n + 1) + (i + 1)) = 2 ^ (2 * n + (i + 2)) + 2 ^ (2 * (n + 1) + i) := by
      rw [show 2 * (n + 1) + (i + 1) = (2 * n + (i + 2)) + 1 by omega, show 2 * (n + 1) + i = 2 * n + (i + 2) by omega, Nat.pow_succ]; omega
    omega
theorem cl_small {n i : Nat} (h : 2 * n + i ≤ 26) : cl n i ≤ 100000000 := by
  have h1 := cl_le n i
  have h2 : 2 ^ (2 * n + i) ≤ 2 ^ 26 := Nat.pow_le_pow_right (by omega) h
  omega
def blCh (l b : Nat) : List Int := if b = 0 then [1] else if b = l then [0] else [0, 1]
def blNl (l _b : Nat) (_x : Int) : Nat := l - 1
def blNb (_l b : Nat) (x : Int) : Nat := if x = 1 then b + 1 else b - 1
def blD (l b : Nat) : Prop := b ≤ l ∧ l ≤ 24 ∧ (l + b) % 2 = 0
def blK (l b : Nat) : Nat := cl ((l - b) / 2) b
def blOk : List Int → Int → Bool
  | [], o => o == 0
  | x :: xs, o => inB x 0 1 && decide (0 ≤ o + (2 * x - 1)) && blOk xs (o + (2 * x - 1))
def blB (xs : List Int) : Bool := blOk xs 0 && decide (xs.length ≤ 24)
theorem blOk_cons {x : Int} {xs : List Int} {o : Int} : blOk (x :: xs) o = true ↔ 0 ≤ x ∧ x ≤ 1 ∧ 0 ≤ o + (2 * x - 1) ∧ blOk xs (o + (2 * x - 1)) = true := by
  rw [blOk, Bool.and_eq_true, Bool.and_eq_true, inB_iff, decide_eq_true_eq]
  constructor
  · rintro ⟨⟨⟨h1, h2⟩, h3⟩, h4⟩; exact ⟨by omega, by omega, h3, h4⟩
  · rintro ⟨h1, h2, h3, h4⟩; exact ⟨⟨⟨by omega, by omega⟩, h3⟩, h4⟩
theorem blOk_le : ∀ (xs : List Int) (o : Int), blOk xs o = true → o ≤ xs.length ∧ ((xs.length : Int) + o) % 2 = 0
  | [], o, h => by
    have : o = 0 := by simpa [blOk] using h
    subst this; simp
  | x :: xs, o, h => by
    obtain ⟨h1, h2, h3, h4⟩ := blOk_cons.1 h
    have := blOk_le xs _ h4
    simp only [List.length_cons]
    omega
theorem bl_mem {l b : Nat} {x : Int} (hd : blD l b) (h0 : l ≠ 0) (hx : x ∈ blCh l b) : (x = 0 ∧ b ≠ 0) ∨ (x = 1 ∧ b ≠ l) := by
  unfold blCh at hx
  unfold blD at hd
  split at hx
  · simp at hx; omega
  · split at hx
    · simp at hx; omega
    · simp at hx; omega
theorem bl_dom {l b : Nat} {x : Int} (hd : blD l b) (h0 : l ≠ 0) (hx : x ∈ blCh l b) : blD (blNl l b x) (blNb l b x) := by
  rcases bl_mem hd h0 hx with ⟨rfl, h⟩ | ⟨rfl, h⟩
  · unfold blD blNl blNb at *; simp; omega
  · unfold blD blNl blNb at *; simp; omega
theorem bl_has {l b : Nat} (hd : blD l b) (h0 : l ≠ 0) (x : Int) : hasB (blCh l b) x = true ↔ (x = 0 ∧ b ≠ 0) ∨ (x = 1 ∧ b ≠ l) := by
  rw [hasB_iff]
  refine ⟨bl_mem hd h0, fun h => ?_⟩
  unfold blCh
  unfold blD at hd
  split
  · simp; omega
  · split
    · simp; omega
    · simp; omega
theorem has_bl : ∀ (xs : List Int) (l b : Nat), blD l b → hasS blCh blNl blNb xs l b = (decide (xs.length = l) && blOk xs b)
  | [], l, b, hd => by
    rw [hasS, blOk]
    unfold blD at hd
    rw [Bool.eq_iff_iff]
    simp; omega
  | x :: xs, l, b, hd => by
    rw [hasS, Bool.eq_iff_iff, Bool.and_eq_true, Bool.and_eq_true, Bool.and_eq_true]
    constructor
    · rintro ⟨⟨h1, h2⟩, h3⟩
      have h0 : l ≠ 0 := by simpa using h1
      have hm := (bl_has hd h0 x).1 h2
      rw [has_bl xs _ _ (bl_dom hd h0 (hasB_iff.1 h2)), Bool.and_eq_true] at h3
      obtain ⟨h4, h5⟩ := h3
      have hl : xs.length = blNl l b x := by simpa using h4
      unfold blNl at hl
      refine ⟨by simp; omega, blOk_cons.2 ?_⟩
      unfold blNb at h5
      rcases hm with ⟨rfl, h⟩ | ⟨rfl, h⟩
      · simp at h5
        refine ⟨by omega, by omega, by omega, ?_⟩
        rw [show (b : Int) + (2 * 0 - 1) = ((b - 1 : Nat) : Int) by omega]; exact h5
      · simp at h5
        refine ⟨by omega, by omega, by omega, ?_⟩
        rw [show (b : Int) + (2 * 1 - 1) = (b : Int) + 1 by omega]; exact h5
    · rintro ⟨h1, h2⟩
      have hl : xs.length + 1 = l := by simpa using h1
      have h0 : l ≠ 0 := by omega
      obtain ⟨h3, h4, h5, h6⟩ := blOk_cons.1 h2
      have h7 := (blOk_le xs _ h6).1
      have hb : hasB (blCh l b) x = true := (bl_has hd h0 x).2 (by unfold blD at hd; omega)
      refine ⟨⟨by simpa using h0, hb⟩, ?_⟩
      rw [has_bl xs _ _ (bl_dom hd h0 (hasB_iff.1 hb)), Bool.and_eq_true]
      refine ⟨by unfold blNl; simp; omega, ?_⟩
      have e : ((blNb l b x : Nat) : Int) = (b : Int) + (2 * x - 1) := by
        unfold blNb; split <;> omega
      rw [e]; exact h6
theorem has_balanced {xs : List Int} (h : xs.length / 2 ≤ 12) : hasS blCh blNl blNb xs (2 * (xs.length / 2)) 0 = blB xs := by
  rw [has_bl xs _ _ (by unfold blD; omega)]
  unfold blB
  rw [Bool.eq_iff_iff, Bool.and_eq_true, Bool.and_eq_true, decide_eq_true_eq, decide_eq_true_eq]
  constructor
  · rintro ⟨h1, h2⟩; exact ⟨h2, by omega⟩
  · rintro ⟨h1, h2⟩
    have := (blOk_le xs _ h1).2
    exact ⟨by omega, h1⟩
theorem bl_far {xs : List Int} (h : ¬ xs.length / 2 ≤ 12) : blB xs = false := by
  unfold blB
  rw [show decide (xs.length ≤ 24) = false by simp; omega]; simp
theorem bl_step {l b : Nat} (hd : blD l b) (h0 : l ≠ 0) : blK l b = sumL (fun x => blK (blNl l b x) (blNb l b x)) (blCh l b) := by
  unfold blD at hd
  unfold blCh
  split
  · rename_i hb
    subst hb
    simp only [sumL, blNl, blNb, blK, if_true]
    obtain ⟨n, hn⟩ : ∃ n, l = 2 * n + 2 := ⟨l / 2 - 1, by omega⟩
    subst hn
    rw [show (2 * n + 2 - 0) / 2 = n + 1 by omega, show (2 * n + 2 - 1 - (0 + 1)) / 2 = n by omega, cl_first]; simp
  · rename_i hb
    split
    · rename_i hl
      subst hl
      simp only [sumL, blNl, blNb, blK]
      rw [show (b - b) / 2 = 0 by omega, if_neg (by decide), show (b - 1 - (b - 1)) / 2 = 0 by omega, cl_zero, cl_zero]
    · rename_i hl
      simp only [sumL, blNl, blNb, blK, if_true]
      rw [if_neg (by decide)]
      obtain ⟨n, hn⟩ : ∃ n, l = b + 2 * n + 2 := ⟨(l - b) / 2 - 1, by omega⟩
      obtain ⟨i, rfl⟩ : ∃ i, b = i + 1 := ⟨b - 1, by omega⟩
      rw [show (l - (i + 1)) / 2 = n + 1 by omega, show (l - 1 - (i + 1 - 1)) / 2 = n + 1 by omega, show (l - 1 - (i + 1 + 1)) / 2 = n by omega, cl_next, Nat.add_sub_cancel, show cl n (i + 1 + 1) = cl n (i + 2) from rfl]
      omega
theorem blCntC : CntC blD blCh blNl blNb blK where
  zero b h := by
    unfold blD at h
    obtain rfl : b = 0 := by omega
    rfl
  step l b h h0 := bl_step h h0
  small l b h := by unfold blD at h; omega
  bound l b h := by
    unfold blD at h
    have := cl_small (n := (l - b) / 2) (i := b) (by omega)
    unfold blK; omega
  less l b x _ h0 _ := by unfold blNl; omega
theorem rk_bl0 {xs : List Int} {l b : Nat} : rkS blCh blNl blNb blK (0 :: xs) l (b + 1) = rkS blCh blNl blNb blK xs (l - 1) b := by
  rw [rkS]
  have e : ((blCh l (b + 1)).take (ixL 0 (blCh l (b + 1)))) = [] := by
    unfold blCh
    rw [if_neg (by omega)]
    split <;> simp [ixL]
  rw [e]
  simp [sumL, blNl, blNb]
theorem rk_bl1 {xs : List Int} {l b : Nat} (hd : blD l b) (h : b + 2 ≤ l) : rkS blCh blNl blNb blK (1 :: xs) l b = (if b = 0 then 0 else cl ((l - b) / 2) (b - 1)) + rkS blCh blNl blNb blK xs (l - 1) (b + 1) := by
  unfold blD at hd
  rw [rkS]
  have e : sumL (fun y => blK (blNl l b y) (blNb l b y)) ((blCh l b).take (ixL 1 (blCh l b))) = if b = 0 then 0 else cl ((l - b) / 2) (b - 1) := by
    unfold blCh
    split
    · simp [ixL, sumL]
    · rw [if_neg (by omega)]
      simp only [ixL]
      simp [sumL, blK, blNl, blNb]
      rw [show (l - 1 - (b - 1)) / 2 = (l - b) / 2 by omega]
  rw [e]
  simp [blNl, blNb]
theorem pk_bl {l b r : Nat} (hd : blD l b) (h0 : l ≠ 0) (hr : r < blK l b) : pkS (fun y => blK (blNl l b y) (blNb l b y)) (blCh l b) r =
    if r < (if b = 0 then 0 else cl ((l - b) / 2) (b - 1)) ∨ (l - b) / 2 = 0 then (0, r) else (1, r - (if b = 0 then 0 else cl ((l - b) / 2) (b - 1))) := by
  have hs := bl_step hd h0
  unfold blD at hd
  unfold blCh at hs ⊢
  by_cases hb : b = 0
  · subst hb
    simp only [if_true, sumL, Nat.add_zero] at hs
    rw [if_pos rfl, if_neg (by simp; omega), pkS, if_pos (by omega)]; simp
  · simp only [if_neg hb] at hs ⊢
    by_cases hl : b = l
    · simp only [if_pos hl, sumL, Nat.add_zero] at hs ⊢
      rw [if_pos (.inr (by omega)), pkS, if_pos (by omega)]
    · simp only [if_neg hl, sumL, Nat.add_zero] at hs ⊢
      have e : blK (blNl l b 0) (blNb l b 0) = cl ((l - b) / 2) (b - 1) := by
        simp only [blK, blNl, blNb]
        rw [if_neg (by decide), show (l - 1 - (b - 1)) / 2 = (l - b) / 2 by omega]
      rw [e] at hs
      rw [pkS, e]
      by_cases hlt : r < cl ((l - b) / 2) (b - 1)
      · rw [if_pos hlt, if_pos (.inl hlt)]
      · rw [if_neg hlt, if_neg (by omega), pkS, if_pos (by omega)]
end Go.Proofs.Ytakelcboamjndaa
