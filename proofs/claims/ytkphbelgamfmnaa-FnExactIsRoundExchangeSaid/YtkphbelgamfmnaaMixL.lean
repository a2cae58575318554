/- Plain facts: distances of digits, ranks that come once, and lists of digits. No conditions beyond the stated ones. -/
import Derived.Test.YtkphbelgamfmnaaDigMath
namespace Go.Proofs.Ytkphbelgamfmnaa
set_option linter.unusedVariables false

def absI (x : Int) : Int := if 0 ≤ x then x else -x
theorem absI_nonneg (x : Int) : 0 ≤ absI x := by unfold absI; split <;> omega
theorem absI_zero {x : Int} : absI x = 0 ↔ x = 0 := by unfold absI; split <;> omega
/-- by how much two lists differ at the first k indices, all in all -/
def distTo (a b : List Int) : Nat → Int
  | 0 => 0
  | k + 1 => distTo a b k + absI (a.getD k 0 - b.getD k 0)
def stepB (a b : List Int) : Bool := decide (distTo a b a.length = 1)
theorem distTo_nonneg (a b : List Int) (k : Nat) : 0 ≤ distTo a b k := by
  induction k with
  | zero => exact Int.le_refl _
  | succ k ih => have := absI_nonneg (a.getD k 0 - b.getD k 0); rw [distTo]; omega
theorem distTo_mono {a b : List Int} {k n : Nat} (h : k ≤ n) : distTo a b k ≤ distTo a b n := by
  induction n with
  | zero => rw [show k = 0 by omega]; exact Int.le_refl _
  | succ n ih =>
    by_cases e : k = n + 1
    · rw [e]; exact Int.le_refl _
    · have h1 := ih (by omega)
      have := absI_nonneg (a.getD n 0 - b.getD n 0)
      rw [distTo]; omega
theorem distTo_le {a b : List Int} {n : Nat} (h : ∀ i, i < n → absI (a.getD i 0 - b.getD i 0) ≤ 12) (k : Nat) (hk : k ≤ n) : distTo a b k ≤ 12 * k := by
  induction k with
  | zero => simp [distTo]
  | succ k ih =>
    have h1 := ih (by omega)
    have h2 := h k (by omega)
    rw [distTo]; omega
theorem stepB_no {a b : List Int} {k : Nat} (hk : k ≤ a.length) (h : 2 ≤ distTo a b k) : stepB a b = false := by
  have := distTo_mono (a := a) (b := b) hk
  exact decide_eq_false (by omega)

/-- numbers of the lists of L -/
def rkAt (xs : List Int) (L : List (List Int)) (i : Nat) : Int := numTo xs (L.getD i []) (L.getD i []).length
def digL (xs : List Int) (L : List (List Int)) (i : Nat) : Bool := areDig xs (L.getD i [])
def nbL (L : List (List Int)) (i : Nat) : Bool := i == 0 || stepB (L.getD (i - 1) []) (L.getD i [])
/-- r is the number of one of the first k lists -/
def metB (f : Nat → Int) (k : Nat) (r : Int) : Bool := !(allTo k (fun j => !(f j == r)))
def onceB (f : Nat → Int) (n : Nat) : Bool := allTo n (fun i => !(metB f i (f i)))
def coverB (f : Nat → Int) (n : Nat) : Bool := allTo n (fun r => metB f n (r : Int))
theorem metB_iff {f : Nat → Int} {k : Nat} {r : Int} : metB f k r = true ↔ ∃ j, j < k ∧ f j = r := by
  unfold metB
  cases h : allTo k (fun j => !(f j == r)) with
  | true =>
    rw [allTo_iff] at h
    exact ⟨fun e => by simp at e, fun ⟨j, hj, e⟩ => by have := h j hj; simp [e] at this⟩
  | false =>
    refine ⟨fun _ => ?_, fun _ => rfl⟩
    apply Classical.byContradiction
    intro hn
    have : allTo k (fun j => !(f j == r)) = true := (allTo_iff _ _).2 (fun j hj => by
      have : f j ≠ r := fun e => hn ⟨j, hj, e⟩
      simpa using this)
    rw [h] at this; cases this
theorem metB_succ (f : Nat → Int) (k : Nat) (r : Int) : metB f (k + 1) r = (metB f k r || f k == r) := by
  unfold metB; rw [allTo_succ]; cases allTo k (fun j => !(f j == r)) <;> cases (f k == r) <;> rfl
theorem permOf : ∀ {ys S : List Int}, ys.Nodup → (∀ y ∈ ys, y ∈ S) → ys.length = S.length → ys.Perm S
  | [], S, _, _, h => by
    have : S = [] := List.eq_nil_of_length_eq_zero h.symm
    subst this; exact List.Perm.refl _
  | y :: t, S, hn, hs, h => by
    rw [List.nodup_cons] at hn
    have h1 := List.perm_cons_erase (hs y (by simp))
    have hl : t.length = (S.erase y).length := by have := h1.length_eq; simp at this h; omega
    have h2 := permOf (S := S.erase y) hn.2 (fun z hz => by
      have hne : z ≠ y := fun e => hn.1 (e ▸ hz)
      exact (List.mem_erase_of_ne hne).2 (hs z (by simp [hz]))) hl
    exact (h2.cons y).trans h1.symm
theorem once_nodup {f : Nat → Int} {n : Nat} : onceB f n = true ↔ ((List.range n).map f).Nodup := by
  unfold onceB
  rw [allTo_iff, List.nodup_iff_pairwise_ne, List.pairwise_iff_getElem]
  simp only [List.length_map, List.length_range, List.getElem_map, List.getElem_range]
  constructor
  · intro h i j hi hj hij e
    have h1 := h j hj
    have h2 : metB f j (f j) = true := metB_iff.2 ⟨i, hij, e⟩
    rw [h2] at h1; cases h1
  · intro h i hi
    cases hm : metB f i (f i) with
    | false => rfl
    | true =>
      obtain ⟨j, hj, e⟩ := metB_iff.1 hm
      exact absurd e (h j i (by omega) hi hj)
theorem once_cover {f : Nat → Int} {n : Nat} (h : ∀ i, i < n → 0 ≤ f i ∧ f i < n) : coverB f n = onceB f n := by
  have hN : ((List.range n).map (fun i : Nat => (i : Int))).Nodup := by
    rw [List.nodup_iff_pairwise_ne, List.pairwise_map]
    exact List.pairwise_lt_range.imp (fun h => by omega)
  have key : coverB f n = true ↔ onceB f n = true := by
    rw [once_nodup]
    unfold coverB
    rw [allTo_iff]
    constructor
    · intro hc
      refine (permOf hN (fun y hy => ?_) (by simp)).nodup_iff.1 hN
      obtain ⟨i, hi, rfl⟩ := List.mem_map.1 hy
      obtain ⟨j, hj, e⟩ := metB_iff.1 (hc i (List.mem_range.1 hi))
      exact List.mem_map.2 ⟨j, List.mem_range.2 hj, e⟩
    · intro hd r hr
      have hp := permOf (S := (List.range n).map (fun i : Nat => (i : Int))) hd (fun y hy => by
        obtain ⟨i, hi, rfl⟩ := List.mem_map.1 hy
        have := h i (List.mem_range.1 hi)
        exact List.mem_map.2 ⟨(f i).toNat, List.mem_range.2 (by omega), by omega⟩) (by simp)
      have := hp.mem_iff.2 (List.mem_map.2 ⟨r, List.mem_range.2 hr, rfl⟩)
      obtain ⟨j, hj, e⟩ := List.mem_map.1 this
      exact metB_iff.2 ⟨j, List.mem_range.1 hj, e⟩
  cases hc : coverB f n <;> cases ho : onceB f n <;> simp_all

/-- the value of IsMixedList, and whether it is asked of bases -/
def mlOk (xs : List Int) (L : List (List Int)) : Bool := basesB xs && decide (L.length ≤ 1100)
def mlV (xs : List Int) (L : List (List Int)) : Bool :=
  mlOk xs L && (decide ((L.length : Int) = prodTo xs xs.length) && (allTo L.length (digL xs L) && (onceB (rkAt xs L) L.length && allTo L.length (nbL L))))
theorem getDL {L : List (List Int)} {i : Nat} (h : i < L.length) : L.getD i [] = L[i] := by simp [List.getD_eq_getElem?_getD, h]
theorem rk_range {xs : List Int} {L : List (List Int)} {i : Nat} (h : allBases xs = true) (hd : digL xs L i = true) : 0 ≤ rkAt xs L i ∧ rkAt xs L i < prodTo xs xs.length := by
  have hl : (L.getD i []).length = xs.length := by
    have := hd
    simp only [digL, areDig, Bool.and_eq_true, decide_eq_true_eq] at this
    exact this.1
  have := numTo_range h hd xs.length (Nat.le_refl _)
  unfold rkAt
  rw [hl]
  exact this
theorem dig_range {xs ys : List Int} (h : allBases xs = true) (hd : areDig xs ys = true) : ys.length = xs.length ∧ ∀ i, i < ys.length → 0 ≤ ys.getD i 0 ∧ ys.getD i 0 ≤ 11 := by
  simp only [areDig, Bool.and_eq_true, decide_eq_true_eq] at hd
  refine ⟨hd.1, fun i hi => ?_⟩
  have h1 := inB_iff.1 ((allTo_iff _ _).1 hd.2 i hi)
  have h2 := base_range h (i := i) (by omega)
  omega
end Go.Proofs.Ytkphbelgamfmnaa
