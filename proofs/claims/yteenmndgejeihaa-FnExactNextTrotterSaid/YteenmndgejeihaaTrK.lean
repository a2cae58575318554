/- Plain facts: indices in Trotter's list. -/
import Derived.Test.YteenmndgejeihaaTrP
namespace Go.Proofs.Yteenmndgejeihaa
open Go.RowKit
set_option linter.unusedVariables false

def potN (x r t : Nat) : Nat := if r % 2 = 0 then x - t else t
theorem trAt_pot (n r : Nat) : trAt n r = potN n (r / (n + 1)) (r % (n + 1)) := rfl
theorem potN_le {x r t : Nat} (h : t ≤ x) : potN x r t ≤ x := by
  unfold potN
  split <;> omega
theorem potN_inv {x r t : Nat} (h : t ≤ x) : potN x r (potN x r t) = t := by
  unfold potN
  split
  · omega
  · rfl
/-- the first place of x -/
def ixL (x : Int) : List Int → Nat
  | [] => 0
  | y :: t => if y = x then 0 else ixL x t + 1
theorem ixL_lt {x : Int} : ∀ {l : List Int}, x ∈ l → ixL x l < l.length
  | y :: t, h => by
    rw [ixL]
    split
    · simp
    · rename_i hne
      have := ixL_lt (l := t) (by rcases List.mem_cons.1 h with h | h; exact absurd h.symm hne; exact h)
      simp
      omega
theorem ixL_get {x : Int} : ∀ {l : List Int}, x ∈ l → l.getD (ixL x l) 0 = x
  | y :: t, h => by
    rw [ixL]
    split
    · rename_i e
      simpa using e
    · rename_i hne
      have := ixL_get (l := t) (by rcases List.mem_cons.1 h with h | h; exact absurd h.symm hne; exact h)
      simpa using this
theorem ixL_first {x : Int} : ∀ {l : List Int} {i : Nat}, i < ixL x l → l.getD i 0 ≠ x
  | y :: t, i, h => by
    rw [ixL] at h
    split at h
    · omega
    · rename_i hne
      match i with
      | 0 => simpa using hne
      | i + 1 =>
        have := ixL_first (x := x) (l := t) (i := i) (by omega)
        simpa using this
/-- how many lesser ones stand ahead of x -/
def cbL (x : Int) : List Int → Nat
  | [] => 0
  | z :: t => if z = x then 0 else (if z < x then 1 else 0) + cbL x t
theorem cbL_count (x : Int) : ∀ l : List Int, countLt (l.take (ixL x l)) x = cbL x l
  | [] => rfl
  | z :: t => by
    rw [ixL, cbL]
    split
    · rfl
    · rw [List.take_succ_cons, ← cbL_count x t]
      unfold countLt
      rw [List.filter_cons]
      by_cases h : z < x
      · simp [h]; omega
      · simp [h]
theorem cbL_erase {x : Int} : ∀ {l : List Int} {a : Nat}, a < l.length → l.getD a 0 ≠ x → ¬ l.getD a 0 < x → cbL x (l.eraseIdx a) = cbL x l
  | z :: t, 0, _, h1, h2 => by
    have h1' : z ≠ x := by simpa using h1
    have h2' : ¬ z < x := by simpa using h2
    rw [List.eraseIdx_cons_zero, cbL, if_neg h1', if_neg h2', Nat.zero_add]
  | z :: t, a + 1, h, h1, h2 => by
    rw [List.eraseIdx_cons_succ, cbL, cbL, cbL_erase (by simpa using h) (by simpa using h1) (by simpa using h2)]
/-- the index, from the greatest one down -/
def trR : Nat → List Int → Nat
  | 0, _ => 0
  | n + 1, l => trR n (l.eraseIdx (ixL n l)) * (n + 1) + potN n (trR n (l.eraseIdx (ixL n l))) (ixL n l)
/-- the index, from the least one up -/
def prR (l : List Int) : Nat → Nat
  | 0 => 0
  | x + 1 => prR l x * (x + 1) + potN x (prR l x) (countLt (l.take (ixL x l)) x)
theorem PN_mem {n : Nat} {l : List Int} (h : PN n l) {x : Nat} (hx : x < n) : (x : Int) ∈ l := h.mem_iff.2 (by unfold upTo; exact List.mem_map.2 ⟨x, List.mem_range.2 hx, rfl⟩)
theorem PN_erase {n : Nat} {l : List Int} (h : PN (n + 1) l) : PN n (l.eraseIdx (ixL n l)) := by
  have hm := PN_mem h (show n < n + 1 by omega)
  have hi := ixL_lt hm
  have hg := ixL_get hm
  have h1 := rk_erase l (ixL n l) hi
  have e : l[ixL n l] = (n : Int) := (getD_at hi).symm.trans hg
  rw [e] at h1
  have h2 : upTo (n + 1) = upTo n ++ [(n : Int)] := by simp [upTo, List.range_succ]
  have h3 : ((n : Int) :: l.eraseIdx (ixL n l)).Perm ((n : Int) :: upTo n) := h1.trans (h.trans (by rw [h2]; exact List.perm_append_comm))
  exact List.Perm.cons_inv h3
theorem count_all {l : List Int} {x : Int} (h : ∀ y ∈ l, y < x) : countLt l x = l.length := by
  unfold countLt
  rw [List.filter_eq_self.2 (fun y hy => by simpa using h y hy)]
theorem prR_erase {n : Nat} {l : List Int} (h : PN (n + 1) l) : ∀ x, x ≤ n → prR (l.eraseIdx (ixL n l)) x = prR l x
  | 0, _ => rfl
  | x + 1, hx => by
    have hm := PN_mem h (show n < n + 1 by omega)
    have hi := ixL_lt hm
    have hg := ixL_get hm
    rw [prR, prR, prR_erase h x (by omega), cbL_count, cbL_count, cbL_erase hi (by rw [hg]; omega) (by rw [hg]; omega)]
theorem trR_prR : ∀ {n : Nat} {l : List Int}, PN n l → trR n l = prR l n
  | 0, _, _ => rfl
  | n + 1, l, h => by
    have hm := PN_mem h (show n < n + 1 by omega)
    have hi := ixL_lt hm
    have ih := trR_prR (PN_erase h)
    have hc : countLt (l.take (ixL n l)) n = ixL n l := by
      rw [count_all, List.length_take]
      · omega
      · intro y hy
        obtain ⟨i, hi2, rfl⟩ := List.mem_iff_getElem.1 hy
        have hil : i < ixL n l := by simp at hi2; omega
        have h1 := ixL_first hil
        have h2 := h.nat (List.getElem_mem (show i < l.length by omega))
        rw [getD_at (show i < l.length by omega)] at h1
        rw [List.getElem_take]
        omega
    rw [trR, prR, ih, prR_erase h n (Nat.le_refl _), hc]
theorem count_upTo : ∀ (n x : Nat), x ≤ n → countLt (upTo n) x = x
  | 0, x, h => by
    obtain rfl : x = 0 := by omega
    rfl
  | n + 1, x, h => by
    have h2 : upTo (n + 1) = upTo n ++ [(n : Int)] := by simp [upTo, List.range_succ]
    rw [h2]
    have e : countLt (upTo n ++ [(n : Int)]) x = countLt (upTo n) x + countLt [(n : Int)] x := by simp [countLt, List.filter_append]
    rw [e]
    by_cases hx : x ≤ n
    · rw [count_upTo n x hx]
      have : countLt [(n : Int)] x = 0 := by simp [countLt]; omega
      omega
    · obtain rfl : x = n + 1 := by omega
      rw [count_all (l := upTo n) (fun y hy => by have := (PN_upTo n).nat hy; omega), upTo_length]
      rw [count_all (l := [(n : Int)]) (fun y hy => by rw [List.mem_singleton] at hy; omega)]
      rfl
theorem count_take_le (l : List Int) (k : Nat) (x : Int) : countLt (l.take k) x ≤ countLt l x := by
  unfold countLt
  conv => rhs; rw [← List.take_append_drop k l, List.filter_append, List.length_append]
  omega
theorem PN_count {n : Nat} {l : List Int} (h : PN n l) {x : Nat} (hx : x < n) : countLt (l.take (ixL x l)) x ≤ x := by
  have h1 := count_take_le l (ixL x l) x
  rw [rk_count h x, count_upTo n x (by omega)] at h1
  exact h1
theorem prR_lt {n : Nat} {l : List Int} (h : PN n l) : ∀ x, x ≤ n → prR l x < fact x
  | 0, _ => by show 0 < fact 0; exact Nat.one_pos
  | x + 1, hx => by
    have ih := prR_lt h x (by omega)
    have h1 := potN_le (r := prR l x) (PN_count h (show x < n by omega))
    have h2 : (prR l x + 1) * (x + 1) ≤ fact x * (x + 1) := Nat.mul_le_mul_right _ ih
    rw [prR, fact]
    rw [Nat.add_mul] at h2
    have h3 : fact x * (x + 1) = (x + 1) * fact x := Nat.mul_comm _ _
    omega
theorem trR_lt {n : Nat} {l : List Int} (h : PN n l) : trR n l < fact n := by rw [trR_prR h]; exact prR_lt h n (Nat.le_refl _)
end Go.Proofs.Yteenmndgejeihaa
