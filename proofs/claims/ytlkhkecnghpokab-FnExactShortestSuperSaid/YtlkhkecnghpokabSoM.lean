/- Plain facts: words laid over each other, and the superpermutations made so. No conditions. -/
import Derived.Test.YtlkhkecnghpokabOrM
import Derived.Test.YtlkhkecnghpokabBs2
namespace Go.Proofs.Ytlkhkecnghpokab
set_option linter.unusedVariables false

/-- how many of the first numbers of bs are the last ones of ws, at most k -/
def layK (ws bs : List Int) : Nat → Nat
  | 0 => 0
  | k + 1 => if ws.drop (ws.length - (k + 1)) = bs.take (k + 1) then k + 1 else layK ws bs k
def layL (ws bs : List Int) : List Int := ws ++ bs.drop (layK ws bs (min ws.length bs.length))
theorem layK_le (ws bs : List Int) : ∀ k, layK ws bs k ≤ k
  | 0 => Nat.le_refl _
  | k + 1 => by
    rw [layK]
    have := layK_le ws bs k
    split <;> omega
theorem layK_yes {ws bs : List Int} {k : Nat} (h : ws.drop (ws.length - k) = bs.take k) : layK ws bs k = k := by
  cases k with
  | zero => rfl
  | succ k => rw [layK, if_pos h]
theorem layK_no {ws bs : List Int} {k : Nat} (h : ¬ ws.drop (ws.length - (k + 1)) = bs.take (k + 1)) : layK ws bs (k + 1) = layK ws bs k := by rw [layK, if_neg h]
theorem layL_length (ws bs : List Int) : (layL ws bs).length ≤ ws.length + bs.length := by
  unfold layL
  rw [List.length_append, List.length_drop]
  omega
/-- a permutation of m, then m, and the permutation again -/
def blkL (m r : Nat) : List Int := atR m (upTo m) r ++ [(m : Int)] ++ atR m (upTo m) r
theorem blkL_length (m r : Nat) : (blkL m r).length = 2 * m + 1 := by
  unfold blkL
  simp only [List.length_append, atR_length, List.length_singleton]
  omega
/-- the first k blocks, laid over each other -/
def layA (m : Nat) (rs : List Int) : Nat → List Int
  | 0 => []
  | k + 1 => layL (layA m rs k) (blkL m (rs.getD k 0).toNat)
theorem layA_length (m : Nat) (rs : List Int) (k : Nat) : (layA m rs k).length ≤ k * (2 * m + 1) := by
  induction k with
  | zero => simp [layA]
  | succ k ih =>
    have h := layL_length (layA m rs k) (blkL m (rs.getD k 0).toNat)
    rw [blkL_length] at h
    rw [layA, Nat.add_mul]
    omega
/-- the ranks of all permutations of m in a word -/
def rksL (m : Nat) (ws : List Int) : List Int := firL m ws (ws.length + 1 - m)
/-- the made superpermutation of m + 1 -/
def supL : Nat → List Int
  | 0 => [0]
  | m + 1 => layA (m + 1) (rksL (m + 1) (supL m)) (rksL (m + 1) (supL m)).length
def rksOk (m : Nat) : Bool := let rs := rksL (m + 1) (supL m); decide (1 ≤ rs.length) && decide (rs.length ≤ 24) && rs.all (fun r => decide (0 ≤ r) && decide (r < (fact (m + 1) : Int))) && suWB (supL m) && decide (1 ≤ (supL m).length)
theorem rks_tab : ∀ m, m < 4 → rksOk m = true := by decide +kernel
structure RksOk (m : Nat) : Prop where
  pos : 1 ≤ (rksL (m + 1) (supL m)).length
  len : (rksL (m + 1) (supL m)).length ≤ 24
  lt : ∀ i (h : i < (rksL (m + 1) (supL m)).length), 0 ≤ (rksL (m + 1) (supL m))[i] ∧ (rksL (m + 1) (supL m))[i] < (fact (m + 1) : Int)
  ok : suWB (supL m) = true
  one : 1 ≤ (supL m).length
theorem rks_ok {m : Nat} (h : m < 4) : RksOk m := by
  have := rks_tab m h
  unfold rksOk at this
  simp only [Bool.and_eq_true, decide_eq_true_eq, List.all_eq_true] at this
  obtain ⟨⟨⟨⟨h0, h1⟩, h2⟩, h3⟩, h4⟩ := this
  exact ⟨h0, h1, fun i hi => h2 _ (List.getElem_mem hi), h3, h4⟩
end Go.Proofs.Ytlkhkecnghpokab
