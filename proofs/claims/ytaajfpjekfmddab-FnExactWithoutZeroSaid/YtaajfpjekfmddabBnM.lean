/- Plain facts: numbers of windows, and when a cycle is a de Bruijn word. No conditions. -/
import Derived.Test.YtaajfpjekfmddabBnN
import Derived.Test.YtaajfpjekfmddabBr6
import Derived.Test.YtaajfpjekfmddabOnG
import Derived.Test.YtaajfpjekfmddabBs2
namespace Go.Proofs.Ytaajfpjekfmddab
set_option linter.unusedVariables false

theorem cycB_belK {xs : List Int} {k : Nat} (h : cycB xs (k : Int) = true) : belK k xs := fun i hi => by
  have := (cycB_iff.1 h).2.2 i hi
  omega
theorem arL_belK {xs : List Int} {k : Nat} (h : belK k xs) (h1 : 1 ≤ xs.length) (p n : Nat) : belK k (arL xs p n) := by
  intro i hi
  rw [arL_len] at hi
  rw [arL_at hi]
  exact h _ (Nat.mod_lt _ (by omega))
/-- the number of the window at the place p -/
def winN (xs : List Int) (n k p : Nat) : Nat := numN k (arL xs p n) n
theorem winN_lt {xs : List Int} {k : Nat} (h : belK k xs) (h1 : 1 ≤ xs.length) (hk : 1 ≤ k) (n p : Nat) : winN xs n k p < k ^ n :=
  numN_lt (arL_belK h h1 p n) n (by rw [arL_len]; exact Nat.le_refl _) hk
/-- the numbers of the windows at the first j places -/
def nbsT (xs : List Int) (n k : Nat) (j : Nat) : List Int := (List.range j).map (fun p : Nat => (winN xs n k p : Int))
theorem nbsT_len (xs : List Int) (n k j : Nat) : (nbsT xs n k j).length = j := by simp [nbsT]
theorem nbsT_succ (xs : List Int) (n k j : Nat) : nbsT xs n k (j + 1) = nbsT xs n k j ++ [(winN xs n k j : Int)] := by simp [nbsT, List.range_succ]
theorem nbsT_at {xs : List Int} {n k j p : Nat} (h : p < j) : (nbsT xs n k j).getD p 0 = (winN xs n k p : Int) := by simp [nbsT, h]
/-- the first m numbers are different -/
def newI (L : List Int) (j : Nat) : Bool := !(metG (fun i => L.getD i 0) j (L.getD j 0))
def difB (L : List Int) : Bool := allTo L.length (newI L)
/-- a cycle is a de Bruijn word -/
def bruR (xs : List Int) (n k : Nat) : Bool := decide (xs.length = k ^ n) && difB (nbsT xs n k xs.length)
theorem numN_to {n k : Nat} {ys : List Int} (h : belK k ys) (hn : ys.length = n) (j : Nat) (hj : j ≤ n) : numTo (List.replicate n (k : Int)) ys j = (numN k ys j : Int) := by
  induction j with
  | zero => rfl
  | succ j ih =>
    have h2 := h j (by omega)
    have e : (List.replicate n (k : Int)).getD j 0 = (k : Int) := by simp [List.getD_eq_getElem?_getD, show j < n by omega]
    rw [numTo, ih (by omega), numN, e, Int.natCast_add, Int.natCast_mul, Int.toNat_of_nonneg h2.1]
theorem prod_rep (n k : Nat) (j : Nat) (hj : j ≤ n) : prodTo (List.replicate n (k : Int)) j = pwI k j := by
  induction j with
  | zero => rfl
  | succ j ih =>
    have e : (List.replicate n (k : Int)).getD j 0 = (k : Int) := by simp [List.getD_eq_getElem?_getD, show j < n by omega]
    rw [prodTo, ih (by omega), pwI, e]
theorem bases_rep {n k : Nat} (hn : n < 11) (hk : 2 ≤ k) (hk2 : k < 7) (hp : k ^ n ≤ 1024) : basesB (List.replicate n (k : Int)) = true := by
  refine basesB_iff.2 ⟨by simp; omega, ?_, ?_⟩
  · unfold allBases
    rw [allTo_iff]
    intro i hi
    rw [List.length_replicate] at hi
    unfold baseAt
    have e : (List.replicate n (k : Int)).getD i 0 = (k : Int) := by simp [List.getD_eq_getElem?_getD, hi]
    rw [e, inB_iff]
    omega
  · rw [List.length_replicate, prod_rep n k n (Nat.le_refl _), pwI_pow]
    omega
theorem rank_rep {n k : Nat} {ys : List Int} (hn : n < 11) (hk : 2 ≤ k) (hk2 : k < 7) (hp : k ^ n ≤ 1024) (h : belK k ys) (hl : ys.length = n) : rankB (List.replicate n (k : Int)) ys = true ∧ rankRes (List.replicate n (k : Int)) ys = (numN k ys n : Int) := by
  have hb : rankB (List.replicate n (k : Int)) ys = true := by
    unfold rankB areDig
    rw [bases_rep hn hk hk2 hp, decide_eq_true (by simp [hl]), Bool.true_and, Bool.true_and, allTo_iff]
    intro i hi
    have e : (List.replicate n (k : Int)).getD i 0 = (k : Int) := by simp [List.getD_eq_getElem?_getD, show i < n by omega]
    have := h i hi
    rw [e, inB_iff]
    omega
  refine ⟨hb, ?_⟩
  unfold rankRes
  rw [if_pos hb, hl, numN_to h hl n (Nat.le_refl _)]
theorem win_getD {xs : List Int} {n j : Nat} (h : j < xs.length) : (winL xs n).getD j [] = arL xs j n := by simp [winL, h]
theorem onA_bru {xs : List Int} {n k : Nat} (hn : n < 11) (hk : 2 ≤ k) (hk2 : k < 7) (hp : k ^ n ≤ 1024) (h : belK k xs) (h1 : 1 ≤ xs.length) :
    onA (rankRes (List.replicate n (k : Int))) (rankB (List.replicate n (k : Int))) (k ^ n) (winL xs n) = bruR xs n k := by
  have hr : ∀ p, p < xs.length → rankB (List.replicate n (k : Int)) (arL xs p n) = true ∧ rankRes (List.replicate n (k : Int)) (arL xs p n) = (winN xs n k p : Int) :=
    fun p _ => rank_rep hn hk hk2 hp (arL_belK h h1 p n) (arL_len _ _ _)
  unfold onA bruR difB
  rw [winL_len, nbsT_len]
  congr 1
  rw [Bool.eq_iff_iff, allTo_iff, allTo_iff]
  refine forall_congr' fun j => ?_
  refine forall_congr' fun hj => ?_
  have e : onG (rankRes (List.replicate n (k : Int))) (rankB (List.replicate n (k : Int))) (winL xs n) j = newI (nbsT xs n k xs.length) j := by
    unfold onG newI
    rw [win_getD hj, (hr j hj).1, (hr j hj).2, Bool.true_and, nbsT_at hj]
    congr 1
    rw [Bool.eq_iff_iff, metG_iff, metG_iff]
    constructor
    · rintro ⟨i, hi, e⟩
      refine ⟨i, hi, ?_⟩
      rw [win_getD (by omega), (hr i (by omega)).2] at e
      rw [nbsT_at (by omega), e]
    · rintro ⟨i, hi, e⟩
      refine ⟨i, hi, ?_⟩
      rw [nbsT_at (by omega)] at e
      rw [win_getD (by omega), (hr i (by omega)).2, e]
  rw [e]
end Go.Proofs.Ytaajfpjekfmddab
