/- The mathematics of the reflected list of bases. No conditions. -/
import Derived.Test.YtkphbelgamfmnaaDigMath
namespace Go.Proofs.Ytkphbelgamfmnaa
set_option linter.unusedVariables false

def prodL : List Int → Int
  | [] => 1
  | b :: bs => b * prodL bs
theorem prodTo_cons (b : Int) (bs : List Int) (k : Nat) : prodTo (b :: bs) (k + 1) = b * prodTo bs k := by
  induction k with
  | zero => simp [prodTo]
  | succ k ih =>
    rw [prodTo, ih, prodTo]
    simp [Int.mul_assoc]
theorem prodTo_prodL (xs : List Int) : prodTo xs xs.length = prodL xs := by
  induction xs with
  | nil => rfl
  | cons b bs ih => rw [List.length_cons, prodTo_cons, ih]; rfl
/-- r, or its mirror in 0, .., s - 1 if d is odd -/
def turnIf (d s r : Int) : Int := if d % 2 = 1 then s - 1 - r else r
theorem turnIf_range {d s r : Int} (h0 : 0 ≤ r) (h1 : r < s) : 0 ≤ turnIf d s r ∧ turnIf d s r < s := by
  unfold turnIf; split <;> omega
theorem turnIf_turnIf (d s r : Int) : turnIf d s (turnIf d s r) = r := by
  unfold turnIf; split <;> omega
def mixL : List Int → Int → List Int
  | [], _ => []
  | _ :: bs, r => r / prodL bs :: mixL bs (turnIf (r / prodL bs) (prodL bs) (r % prodL bs))
def mixR : List Int → List Int → Int
  | _ :: bs, d :: ds => d * prodL bs + turnIf d (prodL bs) (mixR bs ds)
  | _, _ => 0
theorem mixL_length (xs : List Int) (r : Int) : (mixL xs r).length = xs.length := by
  induction xs generalizing r with
  | nil => rfl
  | cons b bs ih => simp [mixL, ih]

/-- all numbers are at least 1 -/
def ones (xs : List Int) : Prop := ∀ x ∈ xs, 1 ≤ x
theorem ones_tail {b : Int} {bs : List Int} (h : ones (b :: bs)) : 1 ≤ b ∧ ones bs := ⟨h b (by simp), fun x hx => h x (by simp [hx])⟩
theorem prodL_pos {xs : List Int} (h : ones xs) : 1 ≤ prodL xs := by
  induction xs with
  | nil => simp [prodL]
  | cons b bs ih =>
    obtain ⟨h1, h2⟩ := ones_tail h
    have := Int.mul_le_mul h1 (ih h2) (by omega) (by omega)
    simpa [prodL] using this
theorem prodL_tail {b : Int} {bs : List Int} (h : ones (b :: bs)) : prodL bs ≤ prodL (b :: bs) := by
  obtain ⟨h1, h2⟩ := ones_tail h
  have h3 := prodL_pos h2
  have := Int.mul_le_mul_of_nonneg_right h1 (show 0 ≤ prodL bs by omega)
  simpa [prodL] using this

/-- digits for bases, one by one -/
def okDig : List Int → List Int → Prop
  | [], [] => True
  | b :: bs, d :: ds => (0 ≤ d ∧ d < b) ∧ okDig bs ds
  | _, _ => False
theorem mixR_range {xs ys : List Int} (h : ones xs) (hd : okDig xs ys) : 0 ≤ mixR xs ys ∧ mixR xs ys < prodL xs := by
  induction xs generalizing ys with
  | nil => cases ys with
    | nil => simp [mixR, prodL]
    | cons => simp [okDig] at hd
  | cons b bs ih =>
    cases ys with
    | nil => simp [okDig] at hd
    | cons d ds =>
      obtain ⟨⟨h1, h2⟩, h3⟩ := hd
      obtain ⟨g1, g2⟩ := ones_tail h
      obtain ⟨i1, i2⟩ := ih g2 h3
      obtain ⟨t1, t2⟩ := turnIf_range (d := d) i1 i2
      have hp := prodL_pos g2
      have m1 : 0 ≤ d * prodL bs := Int.mul_nonneg h1 (by omega)
      have m2 : (d + 1) * prodL bs ≤ b * prodL bs := Int.mul_le_mul_of_nonneg_right (by omega) (by omega)
      rw [Int.add_mul, Int.one_mul] at m2
      simp only [mixR, prodL]
      omega
theorem mixL_mixR {xs ys : List Int} (h : ones xs) (hd : okDig xs ys) : mixL xs (mixR xs ys) = ys := by
  induction xs generalizing ys with
  | nil => cases ys with
    | nil => rfl
    | cons => simp [okDig] at hd
  | cons b bs ih =>
    cases ys with
    | nil => simp [okDig] at hd
    | cons d ds =>
      obtain ⟨⟨h1, h2⟩, h3⟩ := hd
      obtain ⟨g1, g2⟩ := ones_tail h
      obtain ⟨i1, i2⟩ := mixR_range g2 h3
      obtain ⟨t1, t2⟩ := turnIf_range (d := d) i1 i2
      have hq : (d * prodL bs + turnIf d (prodL bs) (mixR bs ds)) / prodL bs = d := by
        rw [Int.add_comm, Int.add_mul_ediv_right _ _ (by omega), Int.ediv_eq_zero_of_lt t1 t2]; omega
      have hm : (d * prodL bs + turnIf d (prodL bs) (mixR bs ds)) % prodL bs = turnIf d (prodL bs) (mixR bs ds) := by
        rw [Int.add_comm, Int.add_mul_emod_self_right, Int.emod_eq_of_lt t1 t2]
      simp only [mixL, mixR]
      rw [hq, hm, turnIf_turnIf, ih g2 h3]

/-- two lists that differ in one element alone, there by 1 -/
def stepAt (a b : List Int) : Prop := ∃ p x y s, a = p ++ x :: s ∧ b = p ++ y :: s ∧ (y = x + 1 ∨ x = y + 1)
theorem stepAt.symm {a b : List Int} (h : stepAt a b) : stepAt b a := by
  obtain ⟨p, x, y, s, h1, h2, h3⟩ := h
  exact ⟨p, y, x, s, h2, h1, h3.symm⟩
theorem stepAt.cons {a b : List Int} (c : Int) (h : stepAt a b) : stepAt (c :: a) (c :: b) := by
  obtain ⟨p, x, y, s, h1, h2, h3⟩ := h
  exact ⟨c :: p, x, y, s, by simp [h1], by simp [h2], h3⟩
theorem mixL_step {xs : List Int} (h : ones xs) (r : Int) (h0 : 0 ≤ r) (h1 : r + 1 < prodL xs) : stepAt (mixL xs r) (mixL xs (r + 1)) := by
  induction xs generalizing r with
  | nil => simp [prodL] at h1; omega
  | cons b bs ih =>
    obtain ⟨g1, g2⟩ := ones_tail h
    have hp := prodL_pos g2
    have hm0 := Int.emod_nonneg r (show prodL bs ≠ 0 by omega)
    have hm1 := Int.emod_lt_of_pos r (show 0 < prodL bs by omega)
    have hr := Int.emod_add_mul_ediv r (prodL bs)
    by_cases hc : r % prodL bs + 1 < prodL bs
    · have hq : (r + 1) / prodL bs = r / prodL bs := by
        have e : r + 1 = (r % prodL bs + 1) + prodL bs * (r / prodL bs) := by omega
        rw [e, Int.add_mul_ediv_left _ _ (by omega), Int.ediv_eq_zero_of_lt (by omega) hc]; omega
      have hm : (r + 1) % prodL bs = r % prodL bs + 1 := by
        have e : r + 1 = (r % prodL bs + 1) + prodL bs * (r / prodL bs) := by omega
        conv => lhs; rw [e]
        rw [Int.add_mul_emod_self_left, Int.emod_eq_of_lt (by omega) hc]
      simp only [mixL]
      rw [hq, hm]
      refine stepAt.cons _ ?_
      unfold turnIf
      split
      · have := (ih g2 (prodL bs - 1 - (r % prodL bs + 1)) (by omega) (by omega)).symm
        have e : prodL bs - 1 - (r % prodL bs + 1) + 1 = prodL bs - 1 - r % prodL bs := by omega
        rwa [e] at this
      · exact ih g2 _ hm0 hc
    · have hc' : r % prodL bs = prodL bs - 1 := by omega
      have e : r + 1 = prodL bs * (r / prodL bs + 1) := by rw [Int.mul_add, Int.mul_one]; omega
      have hq : (r + 1) / prodL bs = r / prodL bs + 1 := by rw [e, Int.mul_ediv_cancel_left _ (by omega)]
      have hm : (r + 1) % prodL bs = 0 := by rw [e, Int.mul_emod_right]
      simp only [mixL]
      rw [hq, hm, hc']
      refine ⟨[], _, _, mixL bs (turnIf (r / prodL bs) (prodL bs) (prodL bs - 1)), rfl, ?_, .inl rfl⟩
      have : turnIf (r / prodL bs + 1) (prodL bs) 0 = turnIf (r / prodL bs) (prodL bs) (prodL bs - 1) := by
        unfold turnIf; split <;> split <;> omega
      rw [this]; rfl

theorem ones_of_bases {xs : List Int} (h : allBases xs = true) : ones xs := by
  intro x hx
  obtain ⟨i, hi, rfl⟩ := List.mem_iff_getElem.1 hx
  have := base_range h hi
  rw [List.getD_eq_getElem?_getD, List.getElem?_eq_getElem hi] at this
  simp at this
  omega
theorem ones_drop {xs : List Int} (h : ones xs) (k : Nat) : ones (xs.drop k) := fun x hx => h x (List.mem_of_mem_drop hx)
theorem prodL_drop {xs : List Int} {k : Nat} (h : k < xs.length) : prodL (xs.drop k) = xs[k] * prodL (xs.drop (k + 1)) := by
  rw [List.drop_eq_getElem_cons h]; rfl
theorem prodL_drop_le {xs : List Int} (h : ones xs) (k : Nat) : prodL (xs.drop k) ≤ prodL xs := by
  induction xs generalizing k with
  | nil => simp
  | cons b bs ih =>
    cases k with
    | zero => exact Int.le_refl _
    | succ k => exact Int.le_trans (ih (ones_tail h).2 k) (prodL_tail h)
theorem mixL_drop {xs : List Int} {k : Nat} (h : k < xs.length) (r : Int) :
    mixL (xs.drop k) r = r / prodL (xs.drop (k + 1)) :: mixL (xs.drop (k + 1)) (turnIf (r / prodL (xs.drop (k + 1))) (prodL (xs.drop (k + 1))) (r % prodL (xs.drop (k + 1)))) := by
  rw [List.drop_eq_getElem_cons h]; rfl
theorem mixR_drop {xs ys : List Int} {k : Nat} (h : k < xs.length) (h' : k < ys.length) :
    mixR (xs.drop k) (ys.drop k) = ys[k] * prodL (xs.drop (k + 1)) + turnIf ys[k] (prodL (xs.drop (k + 1))) (mixR (xs.drop (k + 1)) (ys.drop (k + 1))) := by
  rw [List.drop_eq_getElem_cons h, List.drop_eq_getElem_cons h']; rfl
theorem okDig_iff {xs ys : List Int} : okDig xs ys ↔ ys.length = xs.length ∧ ∀ i, i < ys.length → 0 ≤ ys.getD i 0 ∧ ys.getD i 0 < xs.getD i 0 := by
  induction xs generalizing ys with
  | nil => cases ys with
    | nil => simp [okDig]
    | cons => simp [okDig]
  | cons b bs ih =>
    cases ys with
    | nil => simp [okDig]
    | cons d ds =>
      rw [okDig, ih]
      constructor
      · rintro ⟨h1, h2, h3⟩
        refine ⟨by simp [h2], fun i hi => ?_⟩
        cases i with
        | zero => simpa using h1
        | succ i => simpa using h3 i (by simpa using hi)
      · rintro ⟨h1, h2⟩
        refine ⟨by simpa using h2 0 (by simp), by simpa using h1, fun i hi => ?_⟩
        simpa using h2 (i + 1) (by simpa using hi)
theorem okDig_of {xs ys : List Int} (h : areDig xs ys = true) : okDig xs ys := by
  simp only [areDig, Bool.and_eq_true, decide_eq_true_eq, allTo_iff, inB_iff] at h
  exact okDig_iff.2 ⟨h.1, fun i hi => by have := h.2 i hi; omega⟩
theorem okDig_drop {xs ys : List Int} (h : okDig xs ys) (k : Nat) : okDig (xs.drop k) (ys.drop k) := by
  induction xs generalizing ys k with
  | nil => cases ys with
    | nil => simpa using h
    | cons => simp [okDig] at h
  | cons b bs ih =>
    cases ys with
    | nil => simp [okDig] at h
    | cons d ds =>
      cases k with
      | zero => exact h
      | succ k => exact ih h.2 k
theorem mixL_okDig {xs : List Int} (h : ones xs) (r : Int) (h0 : 0 ≤ r) (h1 : r < prodL xs) : okDig xs (mixL xs r) := by
  induction xs generalizing r with
  | nil => trivial
  | cons b bs ih =>
    obtain ⟨g1, g2⟩ := ones_tail h
    have hp := prodL_pos g2
    have hm0 := Int.emod_nonneg r (show prodL bs ≠ 0 by omega)
    have hm1 := Int.emod_lt_of_pos r (show 0 < prodL bs by omega)
    obtain ⟨t1, t2⟩ := turnIf_range (d := r / prodL bs) hm0 hm1
    refine ⟨⟨Int.ediv_nonneg h0 (by omega), ?_⟩, ih g2 _ t1 t2⟩
    exact Int.ediv_lt_of_lt_mul (by omega) (by simpa [prodL] using h1)
end Go.Proofs.Ytkphbelgamfmnaa
