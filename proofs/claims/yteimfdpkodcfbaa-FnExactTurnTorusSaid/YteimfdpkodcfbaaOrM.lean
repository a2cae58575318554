/- Plain facts: the order of numbers; the ranks of the permutations in a word. No conditions. -/
import Derived.Test.YteimfdpkodcfbaaBs2
import Derived.Test.YteimfdpkodcfbaaBs1
namespace Go.Proofs.Yteimfdpkodcfbaa
set_option linter.unusedVariables false

theorem countLt_up (l : List Int) {x y : Int} (h : x < y) : countLt l x ≤ countLt l y := by
  induction l with
  | nil => exact Nat.le_refl _
  | cons z l ih =>
    unfold countLt at ih ⊢
    by_cases h1 : z < x
    · rw [List.filter_cons_of_pos (by simpa using h1), List.filter_cons_of_pos (by simp; omega), List.length_cons, List.length_cons]; omega
    · rw [List.filter_cons_of_neg (by simpa using h1)]
      by_cases h2 : z < y
      · rw [List.filter_cons_of_pos (by simpa using h2), List.length_cons]; omega
      · rw [List.filter_cons_of_neg (by simpa using h2)]; exact ih
theorem countLt_less (l : List Int) {x y : Int} (h : x < y) (hx : x ∈ l) : countLt l x < countLt l y := by
  induction l with
  | nil => simp at hx
  | cons z l ih =>
    have hu := countLt_up l h
    unfold countLt at ih hu ⊢
    by_cases e : x = z
    · subst e
      rw [List.filter_cons_of_neg (by simp), List.filter_cons_of_pos (by simpa using h), List.length_cons]; omega
    · have hx : x ∈ l := by simpa [e] using hx
      have ih := ih hx
      by_cases h1 : z < x
      · rw [List.filter_cons_of_pos (by simpa using h1), List.filter_cons_of_pos (by simp; omega), List.length_cons, List.length_cons]; omega
      · rw [List.filter_cons_of_neg (by simpa using h1)]
        by_cases h2 : z < y
        · rw [List.filter_cons_of_pos (by simpa using h2), List.length_cons]; omega
        · rw [List.filter_cons_of_neg (by simpa using h2)]; exact ih
theorem countLt_in (l : List Int) {x : Int} (hx : x ∈ l) : countLt l x < l.length := by
  unfold countLt
  rcases Nat.lt_or_ge (l.filter fun y => decide (y < x)).length l.length with h | h
  · exact h
  · have := List.length_filter_le (fun y => decide (y < x)) l
    have h2 := List.length_filter_eq_length_iff.1 (show (l.filter fun y => decide (y < x)).length = l.length by omega) x hx
    simp at h2

/-- how many numbers are less, at each index -/
def lesL (xs : List Int) : List Int := xs.map fun x => (countLt xs x : Int)
/-- no two numbers are equal -/
def distB (xs : List Int) : Bool := allTo xs.length (freshAt xs)
theorem lesL_length (xs : List Int) : (lesL xs).length = xs.length := by simp [lesL]
theorem lesL_getD (xs : List Int) {i : Nat} (h : i < xs.length) : (lesL xs).getD i 0 = countLt xs xs[i] := by
  simp [lesL, List.getD_eq_getElem?_getD, h]
theorem fresh_less (xs : List Int) {i : Nat} (h : i < xs.length) : freshAt (lesL xs) i = freshAt xs i := by
  unfold freshAt
  rw [lesL_getD xs h, getD_at h]
  congr 1
  rw [Bool.eq_iff_iff, hasB_iff, hasB_iff]
  constructor
  · intro hm
    rw [List.mem_iff_getElem] at hm
    obtain ⟨j, hj, he⟩ := hm
    have hj2 : j < i := by simp only [List.length_take] at hj; omega
    have hj3 : j < xs.length := by omega
    rw [List.getElem_take] at he
    have he2 : (countLt xs xs[j] : Int) = countLt xs xs[i] := by simpa [lesL] using he
    have hxx : xs[j] = xs[i] := by
      rcases Int.lt_trichotomy xs[j] xs[i] with q | q | q
      · have := countLt_less xs q (List.getElem_mem hj3); omega
      · exact q
      · have := countLt_less xs q (List.getElem_mem h); omega
    rw [← hxx, List.mem_iff_getElem]
    exact ⟨j, by simp only [List.length_take]; omega, by rw [List.getElem_take]⟩
  · intro hm
    rw [List.mem_iff_getElem] at hm
    obtain ⟨j, hj, he⟩ := hm
    have hj2 : j < i := by simp only [List.length_take] at hj; omega
    rw [List.getElem_take] at he
    rw [List.mem_iff_getElem]
    exact ⟨j, by simp only [List.length_take, lesL_length]; omega, by rw [List.getElem_take]; simp [lesL, he]⟩
theorem permB_less (xs : List Int) (h : xs.length ≤ 12) : permB (lesL xs) = distB xs := by
  rw [← permB_eq]
  have h1 : inB ((lesL xs).length : Int) 0 12 = true := by rw [lesL_length, inB_iff]; omega
  have h2 : belowB (lesL xs) ((lesL xs).length : Int) = true := by
    unfold belowB
    rw [allTo_iff]
    intro i hi
    rw [lesL_length] at hi
    rw [lesL_getD xs hi, lesL_length, inB_iff]
    have := countLt_in xs (List.getElem_mem hi)
    omega
  unfold permB' distB
  rw [h1, h2, lesL_length]
  simp only [Bool.true_and]
  rw [Bool.eq_iff_iff, allTo_iff, allTo_iff]
  constructor
  · intro q i hi
    rw [← fresh_less xs hi]; exact q i hi
  · intro q i hi
    rw [fresh_less xs hi]; exact q i hi

/-- the numbers in a row from an index on -/
def rowD (n : Nat) (xs : List Int) (i : Nat) : List Int := (xs.drop i).take n
/-- the ranks of the permutations among the first windows, by their first coming -/
def firL (n : Nat) (xs : List Int) : Nat → List Int
  | 0 => []
  | k + 1 => if permB (rowD n xs k) = true ∧ hasB (firL n xs k) (rankR (rowD n xs k)) = false then firL n xs k ++ [(rankR (rowD n xs k) : Int)] else firL n xs k
theorem firL_le (n : Nat) (xs : List Int) (k : Nat) : (firL n xs k).length ≤ k := by
  induction k with
  | zero => exact Nat.le_refl _
  | succ k ih => rw [firL]; split
                 · rw [List.length_append]; simp; exact ih
                 · omega
theorem firL_new {n : Nat} {xs : List Int} {k : Nat} (h1 : permB (rowD n xs k) = true) (h2 : hasB (firL n xs k) (rankR (rowD n xs k)) = false) : firL n xs (k + 1) = firL n xs k ++ [(rankR (rowD n xs k) : Int)] := by rw [firL, if_pos ⟨h1, h2⟩]
theorem firL_again {n : Nat} {xs : List Int} {k : Nat} (h2 : hasB (firL n xs k) (rankR (rowD n xs k)) = true) : firL n xs (k + 1) = firL n xs k := by rw [firL, if_neg (by rw [h2]; simp)]
theorem firL_none {n : Nat} {xs : List Int} {k : Nat} (h1 : permB (rowD n xs k) = false) : firL n xs (k + 1) = firL n xs k := by rw [firL, if_neg (by rw [h1]; simp)]
theorem rowD_length {n : Nat} {xs : List Int} {i : Nat} (h : i + n ≤ xs.length) : (rowD n xs i).length = n := by simp [rowD]; omega
/-- numbers and words in their ranges -/
def suNB (n : Int) : Bool := inB n 1 5
def suWB (xs : List Int) : Bool := decide (xs.length ≤ 200) && belowB xs 12
def suOk (n : Int) (xs : List Int) : Bool := suNB n && suWB xs
/-- the number of windows -/
def wnN (n : Int) (xs : List Int) : Nat := xs.length + 1 - n.toNat
def firRes (n : Int) (xs : List Int) : List Int := if suOk n xs = true then firL n.toNat xs (wnN n xs) else []
theorem firRes_yes {n : Int} {xs : List Int} (h : suOk n xs = true) : firRes n xs = firL n.toNat xs (wnN n xs) := by unfold firRes; rw [if_pos h]
theorem firRes_no {n : Int} {xs : List Int} (h : suOk n xs = false) : firRes n xs = [] := by unfold firRes; rw [if_neg (by rw [h]; simp)]
end Go.Proofs.Yteimfdpkodcfbaa
