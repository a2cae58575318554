/- Plain facts on the list of necklaces: words repeated to n letters. No conditions beyond the stated ones. -/
import Derived.Test.YtjghjlhjeibfoabLwS
import Derived.Test.YtjghjlhjeibfoabKind
namespace Go.Proofs.Ytjghjlhjeibfoab
set_option linter.unusedVariables false

/-- the necklaces out of the first i words -/
def ncTo (n k : Nat) : Nat → List (List Int)
  | 0 => []
  | i + 1 => if n % (wdL n k i).length = 0 then ncTo n k i ++ [arL (wdL n k i) 0 n] else ncTo n k i
theorem ncTo_yes {n k i : Nat} (h : n % (wdL n k i).length = 0) : ncTo n k (i + 1) = ncTo n k i ++ [arL (wdL n k i) 0 n] := by rw [ncTo, if_pos h]
theorem ncTo_no {n k i : Nat} (h : ¬ n % (wdL n k i).length = 0) : ncTo n k (i + 1) = ncTo n k i := by rw [ncTo, if_neg h]
theorem ncTo_len (n k : Nat) : ∀ i, (ncTo n k i).length ≤ i
  | 0 => Nat.le_refl _
  | i + 1 => by
    have := ncTo_len n k i
    rw [ncTo]
    split
    · rw [List.length_append, List.length_singleton]; omega
    · omega
theorem ncTo_rows {n k : Nat} : ∀ i, ∀ l ∈ ncTo n k i, l.length ≤ n
  | 0, l, h => by cases h
  | i + 1, l, h => by
    rw [ncTo] at h
    split at h
    · rcases List.mem_append.1 h with h | h
      · exact ncTo_rows i l h
      · have : l = arL (wdL n k i) 0 n := by simpa using h
        rw [this, arL_len]; exact Nat.le_refl _
    · exact ncTo_rows i l h
/-- once more behind full rounds -/
theorem arL_round {xs : List Int} {q : Nat} (h1 : 1 ≤ xs.length) (hq : q % xs.length = 0) : arL xs 0 q ++ xs = arL xs 0 (q + xs.length) := by
  refine getD_ext (by rw [List.length_append, arL_len, arL_len]) (fun i hi => ?_)
  rw [List.length_append, arL_len] at hi
  rw [arL_at hi, Nat.zero_add]
  by_cases h : i < q
  · rw [List.getD_eq_getElem?_getD, List.getElem?_append_left (by rw [arL_len]; exact h), ← List.getD_eq_getElem?_getD, arL_at h, Nat.zero_add]
  · rw [List.getD_eq_getElem?_getD, List.getElem?_append_right (by rw [arL_len]; omega), arL_len, ← List.getD_eq_getElem?_getD]
    have e : i % xs.length = i - q := by
      have h2 : i = (i - q) + xs.length * (q / xs.length) := by
        have := Nat.div_add_mod q xs.length
        omega
      conv => lhs; rw [h2]
      rw [Nat.add_mul_mod_self_left, Nat.mod_eq_of_lt (by omega)]
    rw [e]
theorem round_le {n q l : Nat} (hl : 1 ≤ l) (hn : n % l = 0) (hq : q % l = 0) (h : q < n) : q + l ≤ n ∧ (q + l) % l = 0 := by
  obtain ⟨a, ha⟩ := Nat.dvd_of_mod_eq_zero hn
  obtain ⟨b, hb⟩ := Nat.dvd_of_mod_eq_zero hq
  subst ha hb
  refine ⟨?_, by rw [Nat.add_mod_right]; exact hq⟩
  have hlt : b < a := by
    rcases Nat.lt_or_ge b a with h2 | h2
    · exact h2
    · exact absurd (Nat.mul_le_mul_left l h2) (by omega)
  have := Nat.mul_le_mul_left l (show b + 1 ≤ a from hlt)
  rw [Nat.mul_add, Nat.mul_one] at this
  exact this
def nkB (n k : Int) : Bool := kindB n k && decide (necC k.toNat n.toNat ≤ 1100)
def nkRes (n k : Int) : List (List Int) := if nkB n k = true then ncTo n.toNat k.toNat (upT k.toNat n.toNat).toNat else []
theorem nkRes_yes {n k : Int} (h : nkB n k = true) : nkRes n k = ncTo n.toNat k.toNat (upT k.toNat n.toNat).toNat := by unfold nkRes; rw [if_pos h]
theorem nkRes_no {n k : Int} (h : nkB n k = false) : nkRes n k = [] := by unfold nkRes; rw [if_neg (by rw [h]; simp)]
end Go.Proofs.Ytjghjlhjeibfoab
