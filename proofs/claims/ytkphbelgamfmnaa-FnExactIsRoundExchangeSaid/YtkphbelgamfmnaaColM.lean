/- Plain facts on the list of all combinations in colexicographic order. No conditions beyond the stated ones. -/
import Derived.Test.YtkphbelgamfmnaaCRankM
namespace Go.Proofs.Ytkphbelgamfmnaa
set_option linter.unusedVariables false

def colL : Nat → Nat → List (List Int)
  | _, 0 => [[]]
  | 0, _ + 1 => []
  | n + 1, k + 1 => colL n (k + 1) ++ (colL n k).map (fun l => l ++ [(n : Int)])
theorem colL_len : ∀ n k, (colL n k).length = binom n k
  | 0, 0 => rfl
  | n + 1, 0 => by simp [colL, binom]
  | 0, k + 1 => rfl
  | n + 1, k + 1 => by rw [colL, List.length_append, List.length_map, colL_len n (k + 1), colL_len n k, binom]
theorem colL_elem : ∀ n k, ∀ l ∈ colL n k, l.length = k ∧ ∀ x ∈ l, x < (n : Int)
  | 0, 0, l, h => by simp [colL] at h; subst h; simp
  | n + 1, 0, l, h => by simp [colL] at h; subst h; simp
  | 0, k + 1, l, h => by simp [colL] at h
  | n + 1, k + 1, l, h => by
    rw [colL, List.mem_append] at h
    rcases h with h | h
    · have := colL_elem n (k + 1) l h
      exact ⟨this.1, fun x hx => by have := this.2 x hx; omega⟩
    · obtain ⟨t, ht, rfl⟩ := List.mem_map.1 h
      have := colL_elem n k t ht
      refine ⟨by simp [this.1], fun x hx => ?_⟩
      rw [List.mem_append, List.mem_singleton] at hx
      rcases hx with hx | hx
      · have := this.2 x hx; omega
      · omega
theorem placeIn_map_snoc (x : Int) (t : List Int) : ∀ (B : List (List Int)), placeIn (t ++ [x]) (B.map (fun l => l ++ [x])) = placeIn t B
  | [] => rfl
  | b :: B => by
    rw [List.map_cons, placeIn, placeIn, placeIn_map_snoc x t B]
    by_cases h : b = t
    · rw [if_pos h, if_pos (by rw [h])]
    · rw [if_neg h, if_neg (fun e => h (List.append_cancel_right e))]
/-- the rank that the elements tell, one after the other -/
def cSum (xs : List Int) : Nat → Nat
  | 0 => 0
  | m + 1 => cSum xs m + binom (xs.getD m 0).toNat (m + 1)
theorem cSum_congr {xs ys : List Int} : ∀ m, (∀ i, i < m → xs.getD i 0 = ys.getD i 0) → cSum xs m = cSum ys m
  | 0, _ => rfl
  | m + 1, h => by rw [cSum, cSum, cSum_congr m (fun i hi => h i (by omega)), h m (by omega)]
/-- rising numbers from 0 on, all below n -/
def Rises (n : Nat) (xs : List Int) : Prop := (∀ i, i < xs.length → 0 ≤ xs.getD i 0 ∧ xs.getD i 0 < n) ∧ ∀ i, i + 1 < xs.length → xs.getD i 0 < xs.getD (i + 1) 0
theorem Rises.get_le {n : Nat} {xs : List Int} (h : Rises n xs) : ∀ d i, i + d < xs.length → xs.getD i 0 + d ≤ xs.getD (i + d) 0 := by
  intro d
  induction d with
  | zero => intro i hi; simp
  | succ d ih =>
    intro i hi
    have h1 := ih i (by omega)
    have h2 := h.2 (i + d) (by omega)
    rw [show i + (d + 1) = i + d + 1 by omega]
    omega
theorem place_col : ∀ (n : Nat) (xs : List Int), Rises n xs → placeIn xs (colL n xs.length) = cSum xs xs.length
  | n, [], _ => by cases n <;> rfl
  | 0, x :: t, h => by
    have := h.1 0 (by simp)
    omega
  | n + 1, x :: t, h => by
    obtain ⟨ys, z, e⟩ : ∃ ys z, x :: t = ys ++ [z] := ⟨(x :: t).dropLast, (x :: t).getLast (by simp), (List.dropLast_concat_getLast (by simp)).symm⟩
    have hlen : (x :: t).length = ys.length + 1 := by rw [e]; simp
    have hz : (x :: t).getD ys.length 0 = z := by rw [e]; simp
    have hys : ∀ i, i < ys.length → (x :: t).getD i 0 = ys.getD i 0 := fun i hi => by
      rw [e]; simp [List.getD_eq_getElem?_getD, List.getElem?_append_left hi]
    have hzb := h.1 ys.length (by omega)
    rw [hz] at hzb
    by_cases hzn : z = n
    · have hry : Rises n ys := by
        refine ⟨fun i hi => ?_, fun i hi => ?_⟩
        · have h1 := h.1 i (by omega)
          have h2 := h.get_le (ys.length - i) i (by omega)
          rw [show i + (ys.length - i) = ys.length by omega, hz] at h2
          rw [hys i hi] at h1 h2
          omega
        · have := h.2 i (by omega)
          rwa [hys i (by omega), hys (i + 1) (by omega)] at this
      have ih := place_col n ys hry
      have hsk : ∀ a ∈ colL n (ys.length + 1), a ≠ ys ++ [z] := fun a ha ea => by
        have := (colL_elem n (ys.length + 1) a ha).2 z (by rw [ea]; simp)
        omega
      rw [hlen, e, colL, hzn, placeIn_skip _ _ _ (by rw [← hzn]; exact hsk) (by rw [placeIn_map_snoc, ih]; omega), placeIn_map_snoc, ih, colL_len, cSum]
      have hc : cSum (ys ++ [(n : Int)]) ys.length = cSum ys ys.length := cSum_congr _ (fun i hi => by simp [List.getD_eq_getElem?_getD, List.getElem?_append_left hi])
      have hg : (ys ++ [(n : Int)]).getD ys.length 0 = n := by simp
      rw [hc, hg, Int.toNat_natCast]
      omega
    · have hr : Rises n (x :: t) := by
        refine ⟨fun i hi => ?_, h.2⟩
        have h1 := h.1 i hi
        have h2 := h.get_le (ys.length - i) i (by omega)
        rw [show i + (ys.length - i) = ys.length by omega, hz] at h2
        omega
      have ih := place_col n (x :: t) hr
      rw [hlen] at ih ⊢
      rw [colL, placeIn_left _ _ _ (by rw [ih]; omega), ih]
theorem Rises_comb {n : Int} {xs : List Int} (h : combB n xs = true) : Rises n.toNat xs ∧ xs.length ≤ 12 ∧ 0 ≤ n ∧ n ≤ 12 := by
  simp only [combB, Bool.and_eq_true, decide_eq_true_eq, inB_iff] at h
  obtain ⟨⟨h1, h2⟩, h3⟩ := h
  unfold risingB at h3
  have hr := fun i hi => (allTo_iff _ _).1 h3 i hi
  simp only [riseAt, Bool.and_eq_true, inB_iff, Bool.or_eq_true, beq_iff_eq, decide_eq_true_eq] at hr
  refine ⟨⟨fun i hi => ?_, fun i hi => ?_⟩, by omega, h1.1, h1.2⟩
  · have := (hr i hi).1; omega
  · have := (hr (i + 1) hi).2
    rw [Nat.add_sub_cancel] at this
    omega
theorem cSum_mono (xs : List Int) {a b : Nat} (h : a ≤ b) : cSum xs a ≤ cSum xs b := by
  induction b with
  | zero => rw [show a = 0 by omega]; exact Nat.le_refl _
  | succ b ih =>
    by_cases e : a = b + 1
    · rw [e]; exact Nat.le_refl _
    · have := ih (by omega)
      rw [cSum]; omega
end Go.Proofs.Ytkphbelgamfmnaa
