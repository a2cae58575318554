/- Plain facts on words: rotations, the order of words, least rotations, root lengths, Lyndon words, factors. No conditions beyond the stated ones. -/
import Derived.Test.YteimfdpkodcfbaaBs1
namespace Go.Proofs.Yteimfdpkodcfbaa
set_option linter.unusedVariables false

/-- n elements from the index s on, going round -/
def arL (xs : List Int) (s n : Nat) : List Int := (List.range n).map (fun i : Nat => xs.getD ((s + i) % xs.length) 0)
theorem arL_len (xs : List Int) (s n : Nat) : (arL xs s n).length = n := by simp [arL]
theorem arL_at {xs : List Int} {s n i : Nat} (h : i < n) : (arL xs s n).getD i 0 = xs.getD ((s + i) % xs.length) 0 := by simp [arL, h]
theorem arL_succ (xs : List Int) (s n : Nat) : arL xs s (n + 1) = arL xs s n ++ [xs.getD ((s + n) % xs.length) 0] := by simp [arL, List.range_succ]
theorem getD_ext {xs ys : List Int} (hl : xs.length = ys.length) (h : ∀ i, i < xs.length → xs.getD i 0 = ys.getD i 0) : xs = ys := by
  apply List.ext_getElem hl
  intro i h1 h2
  have := h i h1
  simpa [List.getD_eq_getElem?_getD, h1, h2] using this
theorem arL_zero (xs : List Int) : arL xs 0 xs.length = xs := by
  refine getD_ext (arL_len _ _ _) (fun i hi => ?_)
  rw [arL_len] at hi
  rw [arL_at hi, Nat.zero_add, Nat.mod_eq_of_lt hi]
theorem arL_mod (xs : List Int) (s n : Nat) : arL xs (s + xs.length) n = arL xs s n := by
  unfold arL
  apply List.map_congr_left
  intro i _
  rw [show s + xs.length + i = s + i + xs.length by omega, Nat.add_mod_right]
/-- a word: 1 to 24 letters less than 6 -/
def lyW (xs : List Int) : Bool := decide (1 ≤ xs.length) && decide (xs.length ≤ 24) && allTo xs.length (fun i => inB (xs.getD i 0) 0 5)
theorem lyW_iff {xs : List Int} : lyW xs = true ↔ (1 ≤ xs.length ∧ xs.length ≤ 24) ∧ ∀ i, i < xs.length → 0 ≤ xs.getD i 0 ∧ xs.getD i 0 ≤ 5 := by
  simp only [lyW, Bool.and_eq_true, decide_eq_true_eq, allTo_iff, inB_iff]
/-- -1, 0 or 1: how a stands to b -/
def cmpL : List Int → List Int → Int
  | [], [] => 0
  | [], _ :: _ => -1
  | _ :: _, [] => 1
  | x :: a, y :: b => if x < y then -1 else if y < x then 1 else cmpL a b
def lessL (a b : List Int) : Bool := decide (cmpL a b < 0)
theorem cmpL_same {a b : List Int} (k : Nat) (h : ∀ i, i < k → a.getD i 0 = b.getD i 0) (ha : k ≤ a.length) (hb : k ≤ b.length) : cmpL a b = cmpL (a.drop k) (b.drop k) := by
  induction k generalizing a b with
  | zero => simp
  | succ k ih =>
    cases a with
    | nil => simp at ha
    | cons x a =>
      cases b with
      | nil => simp at hb
      | cons y b =>
        have h0 := h 0 (by omega)
        simp at h0
        subst h0
        rw [cmpL, if_neg (by omega), if_neg (by omega), List.drop_succ_cons, List.drop_succ_cons]
        refine ih (fun i hi => ?_) (by simpa using ha) (by simpa using hb)
        have := h (i + 1) (by omega)
        simpa using this
theorem drop_getD {a : List Int} {k : Nat} (h : k < a.length) : a.drop k = a.getD k 0 :: a.drop (k + 1) := by
  rw [List.drop_eq_getElem_cons h]; simp [List.getD_eq_getElem?_getD, h]
theorem cmpL_diff {a b : List Int} (k : Nat) (h : ∀ i, i < k → a.getD i 0 = b.getD i 0) (ha : k < a.length) (hb : k < b.length) (hne : a.getD k 0 ≠ b.getD k 0) : cmpL a b = if a.getD k 0 < b.getD k 0 then -1 else 1 := by
  rw [cmpL_same k h (by omega) (by omega), drop_getD ha, drop_getD hb, cmpL]
  by_cases h1 : a.getD k 0 < b.getD k 0
  · rw [if_pos h1, if_pos h1]
  · rw [if_neg h1, if_neg h1, if_pos (by omega)]
theorem cmpL_end {a b : List Int} (h : ∀ i, i < a.length → i < b.length → a.getD i 0 = b.getD i 0) : cmpL a b = if a.length < b.length then -1 else if b.length < a.length then 1 else 0 := by
  by_cases h1 : a.length < b.length
  · rw [cmpL_same a.length (fun i hi => h i hi (by omega)) (Nat.le_refl _) (by omega), List.drop_length, drop_getD h1, cmpL, if_pos h1]
  · rw [if_neg h1]
    by_cases h2 : b.length < a.length
    · rw [cmpL_same b.length (fun i hi => h i (by omega) hi) (by omega) (Nat.le_refl _), List.drop_length, drop_getD h2, cmpL, if_pos h2]
    · rw [if_neg h2, cmpL_same a.length (fun i hi => h i hi (by omega)) (Nat.le_refl _) (by omega), List.drop_length, List.drop_of_length_le (by omega), cmpL]
theorem cmpL_range (a b : List Int) : cmpL a b = -1 ∨ cmpL a b = 0 ∨ cmpL a b = 1 := by
  induction a generalizing b with
  | nil => cases b <;> simp [cmpL]
  | cons x a ih =>
    cases b with
    | nil => simp [cmpL]
    | cons y b => rw [cmpL]; split; · simp
                  split; · simp
                  exact ih b
theorem cmpL_swap (a b : List Int) : cmpL b a = - cmpL a b := by
  induction a generalizing b with
  | nil => cases b <;> simp [cmpL]
  | cons x a ih =>
    cases b with
    | nil => simp [cmpL]
    | cons y b =>
      rw [cmpL, cmpL]
      by_cases h1 : y < x
      · rw [if_pos h1, if_neg (by omega), if_pos h1]
      · rw [if_neg h1]
        by_cases h2 : x < y
        · rw [if_pos h2, if_pos h2]; rfl
        · rw [if_neg h2, if_neg h2, if_neg h1]; exact ih b
/-- the number in 0..k by which the rotation is least -/
def leastTo (xs : List Int) : Nat → Nat
  | 0 => 0
  | k + 1 => if lessL (arL xs (k + 1) xs.length) (arL xs (leastTo xs k) xs.length) = true then k + 1 else leastTo xs k
def leastL (xs : List Int) : Nat := leastTo xs (xs.length - 1)
theorem leastTo_yes {xs : List Int} {k : Nat} (h : lessL (arL xs (k + 1) xs.length) (arL xs (leastTo xs k) xs.length) = true) : leastTo xs (k + 1) = k + 1 := by rw [leastTo, if_pos h]
theorem leastTo_no {xs : List Int} {k : Nat} (h : lessL (arL xs (k + 1) xs.length) (arL xs (leastTo xs k) xs.length) = false) : leastTo xs (k + 1) = leastTo xs k := by rw [leastTo, if_neg (by rw [h]; simp)]
theorem leastTo_le (xs : List Int) (k : Nat) : leastTo xs k ≤ k := by
  induction k with
  | zero => exact Nat.le_refl _
  | succ k ih => rw [leastTo]; split <;> omega
theorem leastL_lt {xs : List Int} (h : 1 ≤ xs.length) : leastL xs < xs.length := by
  have := leastTo_le xs (xs.length - 1)
  unfold leastL; omega
/-- the first number from k on, at most f further, at which p holds -/
def firstOf (p : Nat → Bool) (k : Nat) : Nat → Nat
  | 0 => k
  | f + 1 => if p k = true then k else firstOf p (k + 1) f
theorem firstOf_is {p : Nat → Bool} : ∀ (f k q : Nat), k ≤ q → q ≤ k + f → p q = true → (∀ i, k ≤ i → i < q → p i = false) → firstOf p k f = q := by
  intro f
  induction f with
  | zero => intro k q h1 h2 _ _; rw [firstOf]; omega
  | succ f ih =>
    intro k q h1 h2 h3 h4
    rw [firstOf]
    by_cases e : k = q
    · subst e; rw [if_pos h3]
    · rw [if_neg (by rw [h4 k (Nat.le_refl _) (by omega)]; simp)]
      exact ih (k + 1) q (by omega) (by omega) h3 (fun i hi => h4 i (by omega))
theorem firstOf_spec {p : Nat → Bool} : ∀ (f k : Nat), p (k + f) = true → k ≤ firstOf p k f ∧ firstOf p k f ≤ k + f ∧ p (firstOf p k f) = true ∧ ∀ i, k ≤ i → i < firstOf p k f → p i = false := by
  intro f
  induction f with
  | zero => intro k h; rw [firstOf]; exact ⟨Nat.le_refl _, by omega, h, fun i h1 h2 => by omega⟩
  | succ f ih =>
    intro k h
    rw [firstOf]
    by_cases e : p k = true
    · rw [if_pos e]; exact ⟨Nat.le_refl _, by omega, e, fun i h1 h2 => by omega⟩
    · rw [if_neg e]
      obtain ⟨a, b, c, d⟩ := ih (k + 1) (by rw [show k + 1 + f = k + (f + 1) by omega]; exact h)
      refine ⟨by omega, by omega, c, fun i h1 h2 => ?_⟩
      by_cases e2 : i = k
      · subst e2; simpa using e
      · exact d i (by omega) h2
/-- the root length -/
def rotB (xs : List Int) (p : Nat) : Bool := decide (arL xs p xs.length = xs)
def rootL (xs : List Int) : Nat := firstOf (rotB xs) 1 (xs.length - 1)
theorem rotB_all {xs : List Int} : rotB xs xs.length = true := by
  unfold rotB
  have := arL_mod xs 0 xs.length
  rw [Nat.zero_add] at this
  rw [this, arL_zero]; simp
theorem rootL_spec {xs : List Int} (h : 1 ≤ xs.length) : 1 ≤ rootL xs ∧ rootL xs ≤ xs.length ∧ rotB xs (rootL xs) = true ∧ ∀ i, 1 ≤ i → i < rootL xs → rotB xs i = false := by
  have := firstOf_spec (p := rotB xs) (xs.length - 1) 1 (by rw [show 1 + (xs.length - 1) = xs.length by omega]; exact rotB_all)
  rw [show 1 + (xs.length - 1) = xs.length by omega] at this
  exact this
theorem rotB_iff {xs : List Int} {p : Nat} : rotB xs p = true ↔ ∀ i, i < xs.length → xs.getD ((p + i) % xs.length) 0 = xs.getD i 0 := by
  unfold rotB
  rw [decide_eq_true_eq]
  constructor
  · intro h i hi
    rw [← arL_at hi, h]
  · intro h
    refine getD_ext (arL_len _ _ _) (fun i hi => ?_)
    rw [arL_len] at hi
    rw [arL_at hi, h i hi]
theorem rotB_mul {xs : List Int} {p : Nat} (h : rotB xs p = true) (m : Nat) : rotB xs (m * p) = true := by
  rw [rotB_iff] at h ⊢
  induction m with
  | zero => intro i hi; rw [Nat.zero_mul, Nat.zero_add, Nat.mod_eq_of_lt hi]
  | succ m ih =>
    intro i hi
    have h1 := h ((m * p + i) % xs.length) (Nat.mod_lt _ (by omega))
    rw [ih i hi, Nat.add_mod_mod] at h1
    rw [Nat.succ_mul, show m * p + p + i = p + (m * p + i) by omega]
    exact h1
/-- the root length divides the length -/
theorem root_div {xs : List Int} {p : Nat} (hp : 1 ≤ p) (h : rotB xs p = true) (hm : ∀ i, 1 ≤ i → i < p → rotB xs i = false) : xs.length % p = 0 := by
  rcases Nat.eq_zero_or_pos (xs.length % p) with e | e
  · exact e
  · have h1 := hm (xs.length % p) e (Nat.mod_lt _ (by omega))
    have h2 : rotB xs (xs.length % p) = true := by
      rw [rotB_iff]
      intro i hi
      have hq := rotB_iff.1 (rotB_mul h (xs.length / p)) ((xs.length % p + i) % xs.length) (Nat.mod_lt _ (by omega))
      rw [Nat.add_mod_mod] at hq
      have hd := Nat.div_add_mod xs.length p
      rw [show xs.length / p * p + (xs.length % p + i) = i + xs.length by rw [Nat.mul_comm]; omega, Nat.add_mod_right, Nat.mod_eq_of_lt hi] at hq
      exact hq.symm
    rw [h1] at h2; cases h2
theorem rootL_div {xs : List Int} (h : 1 ≤ xs.length) : xs.length % rootL xs = 0 := by
  obtain ⟨a, _, c, d⟩ := rootL_spec h
  exact root_div a c d
def rootOk (xs : List Int) (p : Nat) : Bool := decide (xs.length % p = 0) && rotB xs p
/-- Lyndon words -/
def neckB (xs : List Int) : Bool := decide (leastL xs = 0)
def lynB (xs : List Int) : Bool := neckB xs && decide (rootL xs = xs.length)
theorem lynB_one (x : Int) : lynB [x] = true := by
  have h : rootL [x] = 1 := rfl
  simp [lynB, neckB, leastL, leastTo, h]
theorem lynB_len1 {xs : List Int} (h : xs.length = 1) : lynB xs = true := by
  match xs, h with
  | [x], _ => exact lynB_one x
/-- the length of the longest Lyndon word with which xs begins; the place of the longest one, but for xs, with which it ends -/
def ffL (xs : List Int) : Nat := xs.length - firstOf (fun k => lynB (xs.take (xs.length - k))) 0 (xs.length - 1)
def hfL (xs : List Int) : Nat := firstOf (fun k => lynB (xs.drop k)) 1 (xs.length - 2)
theorem ffL_is {xs : List Int} {q : Nat} (h1 : 1 ≤ q) (h2 : q ≤ xs.length) (h3 : lynB (xs.take q) = true) (h4 : ∀ i, q < i → i ≤ xs.length → lynB (xs.take i) = false) : ffL xs = q := by
  have := firstOf_is (p := fun k => lynB (xs.take (xs.length - k))) (xs.length - 1) 0 (xs.length - q) (by omega) (by omega) (by show lynB _ = true; rw [show xs.length - (xs.length - q) = q by omega]; exact h3) (fun i _ hi => h4 _ (by omega) (by omega))
  unfold ffL; rw [this]; omega
theorem ffL_spec {xs : List Int} (h : 1 ≤ xs.length) : 1 ≤ ffL xs ∧ ffL xs ≤ xs.length ∧ lynB (xs.take (ffL xs)) = true := by
  obtain ⟨a, b, c, d⟩ := firstOf_spec (p := fun k => lynB (xs.take (xs.length - k))) (xs.length - 1) 0 (by
    show lynB _ = true
    exact lynB_len1 (by simp; omega))
  unfold ffL
  exact ⟨by omega, by omega, c⟩
theorem hfL_is {xs : List Int} {q : Nat} (h1 : 1 ≤ q) (h2 : q < xs.length) (h3 : lynB (xs.drop q) = true) (h4 : ∀ i, 1 ≤ i → i < q → lynB (xs.drop i) = false) : hfL xs = q :=
  firstOf_is (p := fun k => lynB (xs.drop k)) _ _ q h1 (by omega) h3 h4
theorem hfL_spec {xs : List Int} (h : 2 ≤ xs.length) : 1 ≤ hfL xs ∧ hfL xs < xs.length ∧ lynB (xs.drop (hfL xs)) = true := by
  obtain ⟨a, b, c, d⟩ := firstOf_spec (p := fun k => lynB (xs.drop k)) (xs.length - 2) 1 (by
    show lynB _ = true
    exact lynB_len1 (by simp; omega))
  unfold hfL
  exact ⟨a, by omega, c⟩
/-- the factors that do not rise -/
def facF : Nat → List Int → List (List Int)
  | 0, _ => []
  | f + 1, xs => if xs = [] then [] else xs.take (ffL xs) :: facF f (xs.drop (ffL xs))
def facL (xs : List Int) : List (List Int) := facF xs.length xs
theorem facF_eq : ∀ (f g : Nat) (xs : List Int), xs.length ≤ f → xs.length ≤ g → facF f xs = facF g xs := by
  intro f
  induction f with
  | zero => intro g xs h _; rw [List.eq_nil_of_length_eq_zero (by omega : xs.length = 0)]; cases g <;> simp [facF]
  | succ f ih =>
    intro g xs h1 h2
    cases g with
    | zero => rw [List.eq_nil_of_length_eq_zero (by omega : xs.length = 0)]; simp [facF]
    | succ g =>
      rw [facF, facF]
      by_cases e : xs = []
      · rw [if_pos e, if_pos e]
      · rw [if_neg e, if_neg e]
        have hp : 1 ≤ xs.length := List.length_pos_iff.2 e
        have := ffL_spec hp
        rw [ih g (xs.drop (ffL xs)) (by simp; omega) (by simp; omega)]
theorem facL_cons {xs : List Int} (h : 1 ≤ xs.length) : facL xs = xs.take (ffL xs) :: facL (xs.drop (ffL xs)) := by
  have h2 := ffL_spec h
  unfold facL
  obtain ⟨m, hm⟩ : ∃ m, xs.length = m + 1 := ⟨xs.length - 1, by omega⟩
  rw [hm, facF, if_neg (by intro e; rw [e] at h; simp at h), facF_eq m (xs.drop (ffL xs)).length _ (by simp; omega) (Nat.le_refl _)]
theorem facL_nil : facL [] = [] := rfl
theorem facL_len (n : Nat) : ∀ xs : List Int, xs.length ≤ n → (facL xs).length ≤ n := by
  induction n with
  | zero => intro xs h; rw [List.eq_nil_of_length_eq_zero (by omega : xs.length = 0)]; simp [facL_nil]
  | succ n ih =>
    intro xs h
    by_cases e : 1 ≤ xs.length
    · have h2 := ffL_spec e
      rw [facL_cons e, List.length_cons]
      have := ih (xs.drop (ffL xs)) (by simp; omega)
      omega
    · rw [List.eq_nil_of_length_eq_zero (by omega : xs.length = 0)]; simp [facL_nil]
end Go.Proofs.Yteimfdpkodcfbaa
