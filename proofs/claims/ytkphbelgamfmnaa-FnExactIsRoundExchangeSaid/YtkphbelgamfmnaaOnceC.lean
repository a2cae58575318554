/- Plain facts: lists that are all combinations, each once, told by ranks that come once. Conditions: combinations of at most 12 items. -/
import Derived.Test.YtkphbelgamfmnaaCh3
import Derived.Test.YtkphbelgamfmnaaColM
import Derived.Test.YtkphbelgamfmnaaNxtM
import Derived.Test.YtkphbelgamfmnaaMixL
namespace Go.Proofs.Ytkphbelgamfmnaa
set_option linter.unusedVariables false

theorem mem_place {l : List Int} {L : List (List Int)} : 0 ≤ placeIn l L ↔ l ∈ L := by
  constructor
  · intro h
    have h1 := placeIn_lt l L
    have h2 := placeIn_get l L (placeIn l L).toNat (by omega)
    rw [getDL2 (by omega)] at h2
    exact List.mem_iff_getElem.2 ⟨_, _, h2⟩
  · intro h
    induction L with
    | nil => simp at h
    | cons x r ih =>
      rw [placeIn]
      split
      · omega
      · rename_i hx
        have := ih ((List.mem_cons.1 h).resolve_left (fun e => hx e.symm))
        split <;> omega
theorem outTo_nodup (F : Nat → List (List Int)) (hF : ∀ f, (F f).Nodup) (f : Nat) : ∀ m, (outTo F f m).Nodup
  | 0 => by simp [outTo]
  | m + 1 => by
    rw [outTo, List.nodup_append]
    refine ⟨outTo_nodup F hF f m, ?_, fun a ha b hb e => ?_⟩
    · rw [List.nodup_iff_pairwise_ne, List.pairwise_map]
      exact (List.nodup_iff_pairwise_ne.1 (hF _)).imp (fun h e => h (List.cons.inj e).2)
    · obtain ⟨y, t, h1, h2⟩ := outTo_head F f m a ha
      obtain ⟨t', _, h3⟩ := List.mem_map.1 hb
      subst e
      rw [h2] at h3
      have := (List.cons.inj h3).1
      omega
theorem allL_nodup (n : Nat) : ∀ k f, (allL n k f).Nodup
  | 0, _ => by simp [allL]
  | k + 1, f => outTo_nodup _ (allL_nodup n k) f _
theorem permOfL : ∀ {ys S : List (List Int)}, ys.Nodup → (∀ y ∈ ys, y ∈ S) → ys.length = S.length → ys.Perm S
  | [], S, _, _, h => by
    have : S = [] := List.eq_nil_of_length_eq_zero h.symm
    subst this; exact List.Perm.refl _
  | y :: t, S, hn, hs, h => by
    rw [List.nodup_cons] at hn
    have h1 := List.perm_cons_erase (hs y (by simp))
    have hl : t.length = (S.erase y).length := by have := h1.length_eq; simp at this h; omega
    have h2 := permOfL (S := S.erase y) hn.2 (fun z hz => by
      have hne : z ≠ y := fun e => hn.1 (e ▸ hz)
      exact (List.mem_erase_of_ne hne).2 (hs z (by simp [hz]))) hl
    exact (h2.cons y).trans h1.symm
/-- the rank by the last elements, of the list at i; whether the list at i has k elements and is none of those before -/
def crk (k : Nat) (L : List (List Int)) (i : Nat) : Int := (cSum (L.getD i []) k : Nat)
def oneK (k : Nat) (L : List (List Int)) (i : Nat) : Bool := decide ((L.getD i []).length = k) && !(metB (crk k L) i (crk k L i))
theorem cSum_inj {n : Nat} {xs ys : List Int} (hx : combB n xs = true) (hy : combB n ys = true) (hl : xs.length = ys.length) (h : cSum xs xs.length = cSum ys ys.length) : xs = ys := by
  have h1 := place_col _ xs (Rises_comb hx).1
  have h2 := place_col _ ys (Rises_comb hy).1
  rw [h, hl] at h1
  have e1 := placeIn_get _ _ _ h1
  have e2 := placeIn_get _ _ _ h2
  exact e1.symm.trans e2
theorem crk_lt {n k : Nat} {L : List (List Int)} {i : Nat} (hc : combB n (L.getD i []) = true) (hl : (L.getD i []).length = k) : 0 ≤ crk k L i ∧ crk k L i < (binom n k : Int) := by
  have h1 := place_col _ _ (Rises_comb hc).1
  have h2 := placeIn_lt (L.getD i []) (colL (n : Int).toNat (L.getD i []).length)
  rw [h1, colL_len, hl] at h2
  unfold crk
  rw [Int.toNat_natCast] at h2
  omega
theorem mem_all {n k : Nat} {l : List Int} (hc : combB n l = true) (hl : l.length = k) : l ∈ allL n k 0 := by
  obtain ⟨h1, h2, h3, h4⟩ := RF_comb hc
  rw [Int.toNat_natCast] at h1
  have h5 := place_rank n (by omega) l 0 h2 h1
  rw [hl] at h5
  exact mem_place.1 (by rw [h5]; omega)
theorem all_once {n k : Nat} {L : List (List Int)} (hn : n ≤ 12) (hk : k ≤ n) (hc : ∀ l ∈ L, combB n l = true) :
    (decide (L.length = binom n k) && allTo L.length (oneK k L)) = chaB n k L := by
  have hlen := allL_len n hn k 0 (by omega)
  rw [Nat.sub_zero] at hlen
  by_cases hb : L.length = binom n k
  · rw [chaB, decide_eq_true hb, Bool.true_and, Bool.and_true, Bool.eq_iff_iff, allTo_iff, allTo_iff]
    constructor
    · intro h
      have hL : ∀ l ∈ L, l.length = k := by
        intro l hl
        obtain ⟨i, hi, rfl⟩ := List.mem_iff_getElem.1 hl
        have := h i hi
        rw [oneK, Bool.and_eq_true, getDL2 hi, decide_eq_true_eq] at this
        exact this.1
      have hnd : L.Nodup := by
        rw [List.nodup_iff_pairwise_ne, List.pairwise_iff_getElem]
        intro i j hi hj hij e
        have := h j hj
        rw [oneK, Bool.and_eq_true] at this
        have h2 : metB (crk k L) j (crk k L j) = true := metB_iff.2 ⟨i, hij, by unfold crk; rw [getDL2 hi, getDL2 hj, e]⟩
        rw [h2] at this
        exact absurd this.2 (by simp)
      have hp := permOfL hnd (fun y hy => mem_all (hc y hy) (hL y hy)) (by rw [hb, hlen])
      intro i hi
      rw [hasAt, decide_eq_true_eq, mem_place, getDL2 hi]
      exact hp.mem_iff.2 (List.getElem_mem _)
    · intro h
      have hp := permOfL (allL_nodup n k 0) (S := L) (fun y hy => by
        obtain ⟨i, hi, rfl⟩ := List.mem_iff_getElem.1 hy
        have := h i hi
        rw [hasAt, decide_eq_true_eq, mem_place, getDL2 hi] at this
        exact this) (by rw [hb, hlen])
      have hnd := hp.nodup_iff.1 (allL_nodup n k 0)
      have hL : ∀ l ∈ L, l.length = k := fun l hl => allL_elem n k 0 l (hp.mem_iff.2 hl)
      intro i hi
      rw [oneK, Bool.and_eq_true, getDL2 hi, decide_eq_true_eq]
      refine ⟨hL _ (List.getElem_mem _), ?_⟩
      cases hm : metB (crk k L) i (crk k L i) with
      | false => rfl
      | true =>
        obtain ⟨j, hj, e⟩ := metB_iff.1 hm
        unfold crk at e
        rw [getDL2 hi, getDL2 (by omega)] at e
        have hli := hL _ (List.getElem_mem hi)
        have hlj := hL _ (List.getElem_mem (show j < L.length by omega))
        have he := cSum_inj (hc _ (List.getElem_mem (show j < L.length by omega))) (hc _ (List.getElem_mem hi)) (by rw [hli, hlj]) (by rw [hli, hlj]; omega)
        have hpw := List.pairwise_iff_getElem.1 (List.nodup_iff_pairwise_ne.1 hnd) j i (by omega) hi hj
        exact absurd he hpw
  · rw [chaB, decide_eq_false hb, Bool.false_and, Bool.and_false]
end Go.Proofs.Ytkphbelgamfmnaa
