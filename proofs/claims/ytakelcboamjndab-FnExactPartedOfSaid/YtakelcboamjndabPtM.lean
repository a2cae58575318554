/- Parted numbers as a shape, as plain functions: counts, which lists there are, their ranks. No conditions. -/
import Derived.Test.YtakelcboamjndabShR
import Derived.Test.YtakelcboamjndabShL
namespace Go.Proofs.Ytakelcboamjndab
open Go.RowKit Go.Maps
set_option linter.unusedVariables false

/-- how many parted numbers with the total i have no number greater than x -/
def pq : Nat → Nat → Nat
  | 0, i => if i = 0 then 1 else 0
  | x + 1, i => pq x i + if h : x + 1 ≤ i then pq (x + 1) (i - (x + 1)) else 0
termination_by x i => (x, i)
theorem pq_zero (i : Nat) : pq 0 i = if i = 0 then 1 else 0 := by rw [pq]
theorem pq_next (x i : Nat) : pq (x + 1) i = pq x i + if x + 1 ≤ i then pq (x + 1) (i - (x + 1)) else 0 := by
  rw [pq]
  by_cases h : x + 1 ≤ i <;> simp [h]
theorem pq_none (x : Nat) : pq x 0 = 1 := by
  induction x with
  | zero => simp [pq_zero]
  | succ x ih => rw [pq_next, ih, if_neg (by omega)]
/-- n, n - 1, .., 1 -/
def fall : Nat → List Int
  | 0 => []
  | n + 1 => ((n + 1 : Nat) : Int) :: fall n
theorem fall_length : ∀ n, (fall n).length = n
  | 0 => rfl
  | n + 1 => by rw [fall, List.length_cons, fall_length n]
theorem fall_mem {n : Nat} {x : Int} : x ∈ fall n ↔ 1 ≤ x ∧ x ≤ n := by
  induction n with
  | zero => simp [fall]; omega
  | succ n ih => rw [fall, List.mem_cons, ih]; omega
theorem fall_get : ∀ {n i : Nat} (h : i < (fall n).length), (fall n)[i] = ((n - i : Nat) : Int)
  | 0, i, h => by simp [fall] at h
  | n + 1, 0, h => by simp [fall]
  | n + 1, i + 1, h => by
    have h' : i < (fall n).length := by rw [fall_length] at *; omega
    have := fall_get h'
    simp only [fall, List.getElem_cons_succ]
    rw [this]; congr 1; omega
def ptCh (l b : Nat) : List Int := fall (min l b)
def ptNl (l _b : Nat) (x : Int) : Nat := l - x.toNat
def ptNb (_l _b : Nat) (x : Int) : Nat := x.toNat
def ptD (l b : Nat) : Prop := l ≤ 20 ∧ b ≤ 20
def ptK (l b : Nat) : Nat := pq b l
theorem pt_sum (l : Nat) (h0 : l ≠ 0) : ∀ b, pq b l = sumL (fun x => pq x.toNat (l - x.toNat)) (fall (min l b))
  | 0 => by rw [pq_zero, if_neg h0]; simp [fall, sumL]
  | b + 1 => by
    rw [pq_next, pt_sum l h0 b]
    by_cases h : b + 1 ≤ l
    · rw [if_pos h, show min l (b + 1) = b + 1 by omega, show min l b = b by omega, fall, sumL]
      simp only [Int.toNat_natCast]
      omega
    · rw [if_neg h, show min l (b + 1) = l by omega, show min l b = l by omega]; rfl
theorem sum_fall (f : Int → Nat) (l : Nat) : ∀ n, n ≤ l → (∀ x : Nat, 1 ≤ x → x ≤ n → f x ≤ 2 ^ (l - x)) → sumL f (fall n) + 2 ^ (l - n) ≤ 2 ^ l
  | 0, _, _ => by simp [fall, sumL]
  | n + 1, h, hf => by
    have ih := sum_fall f l n (by omega) (fun x h1 h2 => hf x h1 (by omega))
    have h1 := hf (n + 1) (by omega) (Nat.le_refl _)
    rw [fall, sumL]
    have e : 2 ^ (l - n) = 2 ^ (l - (n + 1)) + 2 ^ (l - (n + 1)) := by
      rw [show l - n = (l - (n + 1)) + 1 by omega, Nat.pow_succ]; omega
    omega
theorem pq_pow (l : Nat) : ∀ b, pq b l ≤ 2 ^ l := by
  induction l using Nat.strongRecOn with
  | _ l ih =>
    intro b
    by_cases h0 : l = 0
    · subst h0; rw [pq_none]; exact Nat.le_refl _
    · rw [pt_sum l h0 b]
      have := sum_fall (fun x => pq x.toNat (l - x.toNat)) l (min l b) (by omega) (fun x h1 h2 => by
        simp only [Int.toNat_natCast]; exact ih (l - x) (by omega) x)
      exact Nat.le_trans (Nat.le_add_right _ _) this
theorem pq_small {b l : Nat} (h : l ≤ 21) : pq b l ≤ 4000000 := by
  have h1 := pq_pow l b
  have h2 : 2 ^ l ≤ 2 ^ 21 := Nat.pow_le_pow_right (by omega) h
  omega
theorem ptCntC : CntC ptD ptCh ptNl ptNb ptK where
  zero b _ := pq_none b
  step l b _ h0 := pt_sum l h0 b
  small l b h := by unfold ptD at h; omega
  bound l b h := by
    unfold ptD at h
    have := pq_small (b := b) (l := l) (by omega)
    unfold ptK; omega
  less l b x _ h0 hx := by
    have := fall_mem.1 hx
    unfold ptNl; omega
/-- a parted number with the total l and no number greater than b -/
def ptOk : List Int → Int → Int → Bool
  | [], l, _ => l == 0
  | x :: xs, l, b => inB x 1 b && ptOk xs (l - x) x
theorem ptOk_cons {x : Int} {xs : List Int} {l b : Int} : ptOk (x :: xs) l b = true ↔ 1 ≤ x ∧ x ≤ b ∧ ptOk xs (l - x) x = true := by
  rw [ptOk, Bool.and_eq_true, inB_iff, and_assoc]
theorem ptOk_low : ∀ (xs : List Int) (l b : Int), ptOk xs l b = true → (xs.length : Int) ≤ l
  | [], l, b, h => by
    have : l = 0 := by simpa [ptOk] using h
    subst this; simp
  | x :: xs, l, b, h => by
    obtain ⟨h1, h2, h3⟩ := ptOk_cons.1 h
    have := ptOk_low xs _ _ h3
    simp only [List.length_cons]; omega
theorem has_pt : ∀ (xs : List Int) (l b : Nat), hasS ptCh ptNl ptNb xs l b = ptOk xs l b
  | [], l, b => by
    rw [hasS, ptOk, Bool.eq_iff_iff]; simp
  | x :: xs, l, b => by
    rw [hasS, Bool.eq_iff_iff, Bool.and_eq_true, Bool.and_eq_true, ptOk_cons]
    constructor
    · rintro ⟨⟨h1, h2⟩, h3⟩
      have hm := fall_mem.1 (hasB_iff.1 h2)
      rw [has_pt] at h3
      obtain ⟨n, rfl⟩ := Int.eq_ofNat_of_zero_le (show 0 ≤ x by omega)
      simp only [ptNl, ptNb, Int.toNat_natCast] at h3
      refine ⟨by omega, by omega, ?_⟩
      rw [show (l : Int) - (n : Int) = ((l - n : Nat) : Int) by omega]; exact h3
    · rintro ⟨h1, h2, h3⟩
      have h4 := ptOk_low xs _ _ h3
      obtain ⟨n, rfl⟩ := Int.eq_ofNat_of_zero_le (show 0 ≤ x by omega)
      refine ⟨⟨by simp; omega, hasB_iff.2 (fall_mem.2 ⟨by omega, by omega⟩)⟩, ?_⟩
      rw [has_pt]
      simp only [ptNl, ptNb, Int.toNat_natCast]
      rw [show ((l - n : Nat) : Int) = (l : Int) - (n : Int) by omega]; exact h3
def sumI (xs : List Int) : Int := xs.foldr (· + ·) 0
theorem sumI_cons (x : Int) (xs : List Int) : sumI (x :: xs) = x + sumI xs := rfl
theorem sumI_snoc (xs : List Int) (x : Int) : sumI (xs ++ [x]) = sumI xs + x := by
  induction xs with
  | nil => simp [sumI]
  | cons y ys ih => rw [List.cons_append, sumI_cons, ih, sumI_cons]; omega
theorem ptOk_sum : ∀ (xs : List Int) (l b : Int), ptOk xs l b = true → sumI xs = l
  | [], l, b, h => by
    have : l = 0 := by simpa [ptOk] using h
    subst this; rfl
  | x :: xs, l, b, h => by
    obtain ⟨h1, h2, h3⟩ := ptOk_cons.1 h
    rw [sumI_cons, ptOk_sum xs _ _ h3]; omega
/-- whether it is a parted number of at most 20 -/
def ptB (xs : List Int) : Bool := decide (sumI xs ≤ 20) && ptOk xs (sumI xs) (sumI xs)
end Go.Proofs.Ytakelcboamjndab
