/- Plain facts on the place of a combination in the list of all. No conditions beyond the stated ones. -/
import Derived.Test.YteimfdpkodcfbaaBs2
namespace Go.Proofs.Yteimfdpkodcfbaa
set_option linter.unusedVariables false

def sumB (n r f : Nat) : Nat → Nat
  | 0 => 0
  | m + 1 => sumB n r f m + binom (n - 1 - (f + m)) r
def rankC (n : Nat) : Nat → List Int → Nat
  | _, [] => 0
  | f, x :: t => sumB n t.length f (x.toNat - f) + rankC n (x.toNat + 1) t
/-- the rest of a combination of n, its elements from f on -/
def RF (n : Nat) : Nat → List Int → Prop
  | _, [] => True
  | f, x :: t => (f : Int) ≤ x ∧ x < n ∧ RF n (x.toNat + 1) t

theorem placeIn_skip (l : List Int) : ∀ (A B : List (List Int)), (∀ a ∈ A, a ≠ l) → 0 ≤ placeIn l B → placeIn l (A ++ B) = A.length + placeIn l B
  | [], B, _, _ => by simp
  | a :: A, B, hA, hB => by
    have ih := placeIn_skip l A B (fun x hx => hA x (List.mem_cons_of_mem _ hx)) hB
    have h0 : ¬ a = l := hA a List.mem_cons_self
    rw [List.cons_append, placeIn, if_neg h0, ih, if_neg (by omega), List.length_cons]
    omega
theorem placeIn_left (l : List Int) : ∀ (A B : List (List Int)), 0 ≤ placeIn l A → placeIn l (A ++ B) = placeIn l A
  | [], B, h => by simp [placeIn] at h
  | a :: A, B, h => by
    rw [List.cons_append, placeIn, placeIn]
    rw [placeIn] at h
    by_cases h0 : a = l
    · rw [if_pos h0, if_pos h0]
    · rw [if_neg h0] at h
      by_cases h1 : placeIn l A < 0
      · rw [if_pos h1] at h; omega
      · rw [placeIn_left l A B (by omega)]
theorem placeIn_map (x : Int) (t : List Int) : ∀ (B : List (List Int)), placeIn (x :: t) (B.map (fun l => x :: l)) = placeIn t B
  | [] => rfl
  | b :: B => by
    rw [List.map_cons, placeIn, placeIn, placeIn_map x t B]
    by_cases h : b = t
    · rw [if_pos h, if_pos (by rw [h])]
    · rw [if_neg h, if_neg (by intro e; exact h (List.cons.inj e).2)]
theorem outTo_head (F : Nat → List (List Int)) (f m : Nat) : ∀ l ∈ outTo F f m, ∃ (y : Nat) (t : List Int), y < f + m ∧ l = (y : Int) :: t := by
  induction m with
  | zero => intro l h; simp [outTo] at h
  | succ m ih =>
    intro l h
    rw [outTo, List.mem_append] at h
    rcases h with h | h
    · obtain ⟨y, t, h1, h2⟩ := ih l h
      exact ⟨y, t, by omega, h2⟩
    · obtain ⟨t, _, rfl⟩ := List.mem_map.1 h
      exact ⟨f + m, t, by omega, rfl⟩
theorem outTo_len (n : Nat) (hn : n ≤ 12) (k f : Nat) (hk : k ≤ 12) (m : Nat) : (outTo (allL n k) f m).length = sumB n k f m := by
  induction m with
  | zero => rfl
  | succ m ih =>
    rw [outTo, List.length_append, List.length_map, ih, allL_len n hn k _ hk, sumB, show n - (f + m + 1) = n - 1 - (f + m) by omega]
theorem place_out (n : Nat) (hn : n ≤ 12) (k f m : Nat) (hk : k ≤ 12) (t : List Int) (h : 0 ≤ placeIn t (allL n k (f + m + 1))) (r : Nat) :
    placeIn (((f + m : Nat) : Int) :: t) (outTo (allL n k) f (m + 1 + r)) = sumB n k f m + placeIn t (allL n k (f + m + 1)) := by
  induction r with
  | zero =>
    rw [Nat.add_zero, outTo, placeIn_skip _ _ _ (fun a ha e => by
      obtain ⟨y, t', h1, h2⟩ := outTo_head _ _ _ a ha
      rw [h2] at e
      have := (List.cons.inj e).1
      omega) (by rw [placeIn_map]; exact h), placeIn_map, outTo_len n hn k f hk]
  | succ r ih =>
    rw [show m + 1 + (r + 1) = (m + 1 + r) + 1 by omega, outTo, placeIn_left _ _ _ (by rw [ih]; omega), ih]
theorem place_rank (n : Nat) (hn : n ≤ 12) : ∀ (xs : List Int) (f : Nat), xs.length ≤ 12 → RF n f xs → placeIn xs (allL n xs.length f) = rankC n f xs
  | [], f, _, _ => rfl
  | x :: t, f, hl, h => by
    obtain ⟨h1, h2, h3⟩ := h
    have hl' : t.length ≤ 12 := by simp at hl; omega
    have ih := place_rank n hn t (x.toNat + 1) hl' h3
    obtain ⟨m, hm⟩ : ∃ m, x.toNat = f + m := ⟨x.toNat - f, by omega⟩
    have hx : x = ((f + m : Nat) : Int) := by omega
    rw [hm] at ih
    have hp := place_out n hn t.length f m hl' t (by rw [ih]; omega) (n - f - (m + 1))
    rw [show m + 1 + (n - f - (m + 1)) = n - f by omega, ih] at hp
    rw [List.length_cons, allL, rankC, hm, show f + m - f = m by omega]
    conv => lhs; rw [hx]
    rw [hp]
    omega
theorem RF_of (n : Nat) : ∀ (xs : List Int) (f : Nat), (0 < xs.length → (f : Int) ≤ xs.getD 0 0) → (∀ i, i < xs.length → xs.getD i 0 < n) → (∀ i, i + 1 < xs.length → xs.getD i 0 < xs.getD (i + 1) 0) → RF n f xs
  | [], _, _, _, _ => trivial
  | x :: t, f, h1, h2, h3 => by
    have a1 := h1 (by simp)
    have a2 := h2 0 (by simp)
    simp only [List.getD_cons_zero] at a1 a2
    refine ⟨a1, a2, RF_of n t (x.toNat + 1) (fun ht => ?_) (fun i hi => ?_) (fun i hi => ?_)⟩
    · have := h3 0 (by simp; omega)
      simp only [List.getD_cons_zero, List.getD_cons_succ] at this
      omega
    · have := h2 (i + 1) (by simp; omega)
      simpa using this
    · have := h3 (i + 1) (by simp; omega)
      simpa using this
theorem RF_comb {n : Int} {xs : List Int} (h : combB n xs = true) : RF n.toNat 0 xs ∧ xs.length ≤ 12 ∧ 0 ≤ n ∧ n ≤ 12 := by
  simp only [combB, Bool.and_eq_true, decide_eq_true_eq, inB_iff] at h
  obtain ⟨⟨h1, h2⟩, h3⟩ := h
  unfold risingB at h3
  have hr := fun i hi => (allTo_iff _ _).1 h3 i hi
  simp only [riseAt, Bool.and_eq_true, inB_iff, Bool.or_eq_true, beq_iff_eq, decide_eq_true_eq] at hr
  refine ⟨RF_of _ _ _ (fun h0 => ?_) (fun i hi => ?_) (fun i hi => ?_), by omega, h1.1, h1.2⟩
  · have := (hr 0 h0).1.1; omega
  · have := (hr i hi).1.2; omega
  · have := (hr (i + 1) hi).2
    rw [Nat.add_sub_cancel] at this
    omega
theorem placeIn_lt (l : List Int) : ∀ L, placeIn l L < L.length
  | [] => by simp [placeIn]
  | x :: r => by
    have := placeIn_lt l r
    rw [placeIn, List.length_cons]
    split
    · omega
    · split <;> omega
theorem rankC_le (n : Nat) (hn : n ≤ 12) (xs : List Int) (f : Nat) (hl : xs.length ≤ 12) (h : RF n f xs) : rankC n f xs ≤ 2000 := by
  have h1 := place_rank n hn xs f hl h
  have h2 := placeIn_lt xs (allL n xs.length f)
  have h3 := allL_bound n hn xs.length f hl
  omega
theorem sumB_mono (n r f : Nat) {a b : Nat} (h : a ≤ b) : sumB n r f a ≤ sumB n r f b := by
  induction b with
  | zero => rw [show a = 0 by omega]; exact Nat.le_refl _
  | succ b ih =>
    by_cases e : a = b + 1
    · rw [e]; exact Nat.le_refl _
    · have := ih (by omega)
      rw [sumB]; omega
end Go.Proofs.Yteimfdpkodcfbaa
