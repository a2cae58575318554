/- Contracts: gcChanges, countBits and both ChangesOf functions. Conditions: the slices read as lists of at most 2^20 numbers; the table of math/bits holds what the program's text lays. -/
import Derived.Test.YtijjdidljoicfaaDoorDelt2
namespace Go.Proofs.YtijjdidljoicfaaDoor
open Go.RowKit
set_option linter.unusedVariables false

/-- how often b is among the first k -/
def cntTo (ds : List Int) (b : Nat) : Nat → Nat
  | 0 => 0
  | k + 1 => cntTo ds b k + if ds.getD k 0 = (b : Int) then 1 else 0
theorem cntTo_le (ds : List Int) (b k : Nat) : cntTo ds b k ≤ k := by
  induction k with
  | zero => exact Nat.le_refl _
  | succ k ih => rw [cntTo]; split <;> omega
def countsL (n : Nat) (ds : List Int) : List Int := (List.range n).map (fun b : Nat => (cntTo ds b ds.length : Int))
theorem countsL_length (n : Nat) (ds : List Int) : (countsL n ds).length = n := by simp [countsL]
theorem countsL_getD {n : Nat} {ds : List Int} {i : Nat} (h : i < n) : (countsL n ds).getD i 0 = cntTo ds i ds.length := by simp [countsL, h]
/-- all are numbers below n -/
def bitsIn (n : Nat) (ds : List Int) : Prop := ∀ i, i < ds.length → ∃ y : Nat, ds.getD i 0 = (y : Int) ∧ y < n
theorem cnt_set {w : World} {g n : Nat} {ds : List Int} {k y : Nat} (hy : ds.getD k 0 = (y : Int)) (h : w.rowIs g 3 n (fun j => .int .i64 (cntTo ds j k : Int))) :
    (w.setCell ⟨g, y, none⟩ (.int .i64 ((cntTo ds y k : Int) + 1))).rowIs g 3 n (fun j => .int .i64 (cntTo ds j (k + 1) : Int)) := by
  refine (h.set y (.int .i64 ((cntTo ds y k : Int) + 1))).congr (fun i hi => ?_)
  by_cases e : i = y
  · subst e
    rw [if_pos rfl, cntTo, if_pos hy]; simp
  · rw [if_neg e, cntTo, if_neg (by rw [hy]; omega)]; simp
theorem cnt_own {w : World} {g n : Nat} {ds : List Int} (hn : n ≤ 1048576) (h : w.rowIs g 3 n (fun j => .int .i64 (cntTo ds j ds.length : Int))) : Own w g (.slice (some ⟨g, 0, none⟩) n n) (countsL n ds) :=
  Own.of_rowIs (h.congr (fun i hi => by rw [countsL_getD hi])) (countsL_length n ds) (by unfold maxLen; omega)
theorem delta_lt {n : Int} {m : Nat} {xs : List Int} (h : wordsB n xs = true) (hm : n = m) (hd : deltasB xs = true) : bitsIn m (deltasL xs) := by
  obtain ⟨h1, h2, h3⟩ := wordsB_iff.1 h
  intro i hi
  rw [deltasL_length] at hi
  rw [deltasL_getD hi]
  have h0 := (allTo_iff _ _).1 hd i hi
  simp only [decide_eq_true_eq] at h0
  obtain ⟨a, e1, ha, ha2⟩ := word_nat h1 (h3 i (by omega))
  obtain ⟨b, e2, hb, hb2⟩ := word_nat h1 (h3 (i + 1) (by omega))
  have hD : deltaAt xs i = bitD (a ^^^ b) := by unfold deltaAt; rw [e1, e2]; rfl
  rw [hD] at h0 ⊢
  have hlt : a ^^^ b < 2 ^ m := by
    have : n.toNat = m := by omega
    rw [this] at ha hb
    exact Nat.xor_lt_two_pow ha hb
  have hp : popN (a ^^^ b) = 1 := by
    by_cases hp : popN (a ^^^ b) = 1
    · exact hp
    · rw [bitD_pop _ (xor_lt ha2 hb2) hp] at h0; omega
  obtain ⟨k, hk, e⟩ := pop_pow _ (xor_lt ha2 hb2) hp
  refine ⟨k, by rw [e, bitD_pow k hk], ?_⟩
  rw [e] at hlt
  exact (Nat.pow_lt_pow_iff_right (by omega)).1 hlt
def cgRes (n : Int) (xs : List Int) : List Int := if doB n xs = true then countsL n.toNat (deltasL xs) else []
theorem cgRes_yes {n : Int} {xs : List Int} (h : doB n xs = true) : cgRes n xs = countsL n.toNat (deltasL xs) := by unfold cgRes; rw [if_pos h]
theorem cgRes_no {n : Int} {xs : List Int} (h : doB n xs = false) : cgRes n xs = [] := by unfold cgRes; rw [if_neg (by rw [h]; simp)]
theorem doB_facts {n : Int} {xs : List Int} (h : doB n xs = true) : wordsB n xs = true ∧ deltasB xs = true ∧ doRes n xs = deltasL xs ∧ ∃ m : Nat, n = m ∧ m ≤ 10 := by
  simp only [doB, Bool.and_eq_true] at h
  obtain ⟨m, h1, _, h2⟩ := pow_nat (wordsB_iff.1 h.1).1
  exact ⟨h.1, h.2, by rw [doRes_yes h.1, deltasR_yes h.2], m, h1, h2⟩
theorem bound_ChangesOf (n : Int) (xs : List Int) : (cgRes n xs).length ≤ 1048576 := by
  cases h : doB n xs with
  | false => rw [cgRes_no h]; simp
  | true =>
    obtain ⟨_, _, _, m, h1, h2⟩ := doB_facts h
    rw [cgRes_yes h, countsL_length]
    omega
end Go.Proofs.YtijjdidljoicfaaDoor
