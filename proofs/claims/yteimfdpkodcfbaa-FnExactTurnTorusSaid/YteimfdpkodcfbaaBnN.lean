/- Plain facts: numbers of words as digits. No conditions. -/
import Derived.Test.YteimfdpkodcfbaaBrM
namespace Go.Proofs.Yteimfdpkodcfbaa
set_option linter.unusedVariables false

/-- the number of the first j letters -/
def numN (k : Nat) (ys : List Int) : Nat → Nat
  | 0 => 0
  | j + 1 => numN k ys j * k + (ys.getD j 0).toNat
/-- letters less than k -/
def belK (k : Nat) (ys : List Int) : Prop := ∀ i, i < ys.length → 0 ≤ ys.getD i 0 ∧ ys.getD i 0 < (k : Int)
theorem numN_lt {k : Nat} {ys : List Int} (h : belK k ys) (j : Nat) (hj : j ≤ ys.length) (hk : 1 ≤ k) : numN k ys j < k ^ j := by
  induction j with
  | zero => simp [numN]
  | succ j ih =>
    have h1 := ih (by omega)
    have h2 := h j (by omega)
    rw [numN, Nat.pow_succ]
    have h3 : (numN k ys j + 1) * k ≤ k ^ j * k := Nat.mul_le_mul_right _ h1
    rw [Nat.add_mul, Nat.one_mul] at h3
    omega
theorem numN_inj_to {k : Nat} {xs ys : List Int} (hx : belK k xs) (hy : belK k ys) (j : Nat) (h1 : j ≤ xs.length) (h2 : j ≤ ys.length) (e : numN k xs j = numN k ys j) : ∀ i, i < j → xs.getD i 0 = ys.getD i 0 := by
  induction j with
  | zero => intro i hi; omega
  | succ j ih =>
    have a1 := hx j (by omega)
    have a2 := hy j (by omega)
    obtain ⟨a, ha⟩ : ∃ a : Nat, xs.getD j 0 = (a : Int) := ⟨(xs.getD j 0).toNat, by omega⟩
    obtain ⟨b, hb⟩ : ∃ b : Nat, ys.getD j 0 = (b : Int) := ⟨(ys.getD j 0).toNat, by omega⟩
    rw [numN, numN, ha, hb, Int.toNat_natCast, Int.toNat_natCast] at e
    rw [ha] at a1
    rw [hb] at a2
    have hk : 0 < k := by omega
    have e1 : a = b := by
      have := congrArg (· % k) e
      simp only [Nat.mul_add_mod_self_right] at this
      rwa [Nat.mod_eq_of_lt (by omega), Nat.mod_eq_of_lt (by omega)] at this
    subst e1
    have e2 : numN k xs j = numN k ys j := Nat.eq_of_mul_eq_mul_right hk (by omega)
    intro i hi
    by_cases h : i = j
    · rw [h, ha, hb]
    · exact ih (by omega) (by omega) e2 i (by omega)
theorem numN_inj {k n : Nat} {xs ys : List Int} (hx : belK k xs) (hy : belK k ys) (h1 : xs.length = n) (h2 : ys.length = n) (hk : 1 ≤ k) (e : numN k xs n = numN k ys n) : xs = ys :=
  getD_ext (by rw [h1, h2]) (fun i hi => numN_inj_to hx hy n (by omega) (by omega) e i (by omega))
end Go.Proofs.Yteimfdpkodcfbaa
