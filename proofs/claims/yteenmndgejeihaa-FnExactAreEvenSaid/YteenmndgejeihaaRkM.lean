/- Plain facts: permutations are told by their ranks; a list without repeats of permutations of n has at most n! of them; a move makes a permutation of a permutation. -/
import Derived.Test.YteenmndgejeihaaRank1
import Derived.Test.YteenmndgejeihaaAt1
import Derived.Test.YteenmndgejeihaaMv10
namespace Go.Proofs.Yteenmndgejeihaa
open Go.RowKit
set_option linter.unusedVariables false

theorem rk_count {l l' : List Int} (h : l.Perm l') (x : Int) : countLt l x = countLt l' x := by
  unfold countLt
  exact (h.filter _).length_eq
theorem rk_none {l : List Int} {x : Int} (h : ∀ y ∈ l, ¬ y < x) : countLt l x = 0 := by
  unfold countLt
  rw [List.filter_eq_nil_iff.2 (fun y hy => by simpa using h y hy)]; rfl
theorem rk_fact (m : Nat) : fact (m + 1) = m * fact m + fact m := by rw [fact, Nat.add_mul]; omega
theorem rk_pos : ∀ m, 0 < fact m
  | 0 => Nat.one_pos
  | m + 1 => by rw [rk_fact]; have := rk_pos m; omega
theorem rk_sorted : ∀ {S : List Int}, S.Pairwise (fun a b => a < b) → ∀ {y : Int}, y ∈ S → countLt S y < S.length ∧ S.getD (countLt S y) 0 = y
  | [], _, y, h => absurd h (by simp)
  | x :: t, hs, y, h => by
    rw [List.pairwise_cons] at hs
    rcases List.mem_cons.1 h with rfl | h
    · have h0 : countLt (y :: t) y = 0 := rk_none (fun z hz => by
        rcases List.mem_cons.1 hz with rfl | hz
        · omega
        · have := hs.1 z hz; omega)
      rw [h0]; exact ⟨by simp, rfl⟩
    · have hxy := hs.1 y h
      obtain ⟨a, b⟩ := rk_sorted hs.2 h
      have h1 : countLt (x :: t) y = countLt t y + 1 := by simp [countLt, hxy]
      rw [h1]
      exact ⟨by simp; omega, by rw [List.getD_cons_succ]; exact b⟩
theorem rk_erase : ∀ (l : List Int) (i : Nat) (h : i < l.length), (l[i] :: l.eraseIdx i).Perm l
  | x :: t, 0, _ => List.Perm.refl _
  | x :: t, i + 1, h => (List.Perm.swap x (t[i]'(by simpa using h)) (t.eraseIdx i)).trans ((rk_erase t i (by simpa using h)).cons x)
theorem rk_at : ∀ {ys S : List Int}, S.Pairwise (fun a b => a < b) → ys.Perm S → atR S.length S (rankR ys) = ys
  | [], S, _, h => by
    have : S = [] := by simpa using h.symm
    subst this; rfl
  | y :: t, S, hs, h => by
    have hl : S.length = t.length + 1 := by rw [← h.length_eq]; rfl
    have hy : y ∈ S := h.subset (by simp)
    obtain ⟨a, b⟩ := rk_sorted hs hy
    have hc : countLt S y = countLt t y := by rw [← rk_count h y, countLt_cons]
    rw [hc] at a b
    have hr := rankR_lt t
    have hd : rankR (y :: t) / fact t.length = countLt t y := by
      rw [rankR, countLt_cons, Nat.mul_comm, Nat.mul_add_div (rk_pos _), Nat.div_eq_of_lt hr]; rfl
    have hm : rankR (y :: t) % fact t.length = rankR t := by
      rw [rankR, countLt_cons, Nat.mul_comm, Nat.mul_add_mod, Nat.mod_eq_of_lt hr]
    have hsy : S[countLt t y] = y := by rw [getD_at a] at b; exact b
    have hp : t.Perm (S.eraseIdx (countLt t y)) := by
      have h1 := rk_erase S _ a
      rw [hsy] at h1
      exact (List.Perm.cons_inv (h.trans h1.symm))
    have ih := rk_at (hs.sublist (List.eraseIdx_sublist S _)) hp
    rw [← hp.length_eq] at ih
    rw [hl, atR, hd, hm, b, ih]
theorem rk_permOf : ∀ {ys S : List Int}, ys.Nodup → (∀ y ∈ ys, y ∈ S) → ys.length = S.length → ys.Perm S
  | [], S, _, _, h => by
    have : S = [] := List.eq_nil_of_length_eq_zero h.symm
    subst this; exact List.Perm.refl _
  | y :: t, S, hn, hs, h => by
    rw [List.nodup_cons] at hn
    have h1 := List.perm_cons_erase (hs y (by simp))
    have hl : t.length = (S.erase y).length := by have := h1.length_eq; simp at this h; omega
    have h2 := rk_permOf (S := S.erase y) hn.2 (fun z hz => by
      have hne : z ≠ y := fun e => hn.1 (e ▸ hz)
      exact (List.mem_erase_of_ne hne).2 (hs z (by simp [hz]))) hl
    exact (h2.cons y).trans h1.symm
theorem rk_upTo (n : Nat) : (upTo n).Pairwise (fun a b => a < b) := by
  unfold upTo
  rw [List.pairwise_map]
  exact List.pairwise_lt_range.imp (fun h => by omega)
theorem pm_nodup {xs : List Int} (h : permB xs = true) : xs.Nodup := by
  rw [permB, allTo_iff] at h
  rw [List.nodup_iff_pairwise_ne, List.pairwise_iff_getElem]
  intro i j hi hj hij e
  have h1 := h j hj
  simp only [permAt, Bool.and_eq_true, freshAt, Bool.not_eq_true'] at h1
  have h2 : hasB (xs.take j) (xs.getD j 0) = true := by
    rw [hasB_iff, getD_at hj, ← e]
    exact List.mem_take_iff_getElem.2 ⟨i, by omega, rfl⟩
  rw [h2] at h1
  exact absurd h1.2 (by simp)
theorem pm_perm {xs : List Int} (h : permB xs = true) : xs.Perm (upTo xs.length) := by
  refine rk_permOf (pm_nodup h) (fun y hy => ?_) (by rw [upTo_length])
  obtain ⟨i, hi, rfl⟩ := List.mem_iff_getElem.1 hy
  have := permB_range h hi
  rw [getD_at hi] at this
  rw [upTo, List.mem_map]
  exact ⟨xs[i].toNat, List.mem_range.2 (by omega), by omega⟩
/-- xs is a permutation of the first n numbers -/
def PN (n : Nat) (xs : List Int) : Prop := xs.Perm (upTo n)
theorem PN.len {n : Nat} {xs : List Int} (h : PN n xs) : xs.length = n := by rw [h.length_eq, upTo_length]
theorem PN_of {n : Nat} {xs : List Int} (h : permB xs = true) (hl : xs.length = n) : PN n xs := hl ▸ pm_perm h
theorem PN.permB {n : Nat} {xs : List Int} (h : PN n xs) (hn : n ≤ 12) : permB xs = true := by
  have hl := h.len
  have hnd : xs.Nodup := h.nodup_iff.2 ((rk_upTo n).imp (fun h => by omega))
  rw [Go.Proofs.Yteenmndgejeihaa.permB, allTo_iff]
  intro i hi
  have hm : xs[i] ∈ upTo n := h.subset (List.getElem_mem hi)
  simp only [upTo, List.mem_map, List.mem_range] at hm
  obtain ⟨a, ha, hae⟩ := hm
  rw [permAt, getD_at hi, Bool.and_eq_true, Bool.and_eq_true, decide_eq_true_eq, inB_iff, freshAt, getD_at hi, Bool.not_eq_true']
  refine ⟨⟨by omega, by omega, by omega⟩, ?_⟩
  cases hh : hasB (xs.take i) xs[i] with
  | false => rfl
  | true =>
    rw [hasB_iff] at hh
    obtain ⟨j, hj, he⟩ := List.mem_take_iff_getElem.1 hh
    rw [List.nodup_iff_pairwise_ne, List.pairwise_iff_getElem] at hnd
    exact absurd he (hnd j i (by omega) hi (by omega))
theorem PN.nat {n : Nat} {xs : List Int} (h : PN n xs) {x : Int} (hx : x ∈ xs) : 0 ≤ x ∧ x < n := by
  have hm := h.subset hx
  simp only [upTo, List.mem_map, List.mem_range] at hm
  obtain ⟨a, ha, hae⟩ := hm
  omega
theorem PN_upTo (n : Nat) : PN n (upTo n) := List.Perm.refl _
theorem rk_inj {n : Nat} {a b : List Int} (ha : PN n a) (hb : PN n b) (h : rankR a = rankR b) : a = b := by
  rw [← rk_at (rk_upTo n) ha, ← rk_at (rk_upTo n) hb, h]
theorem rk_lt {n : Nat} {a : List Int} (ha : PN n a) : rankR a < fact n := by
  have := rankR_lt a
  rwa [ha.len] at this
theorem natNodup : ∀ (N : Nat) (l : List Nat), l.Nodup → (∀ x ∈ l, x < N) → l.length ≤ N
  | 0, [], _, _ => Nat.le_refl _
  | 0, x :: t, _, h => absurd (h x (by simp)) (by omega)
  | N + 1, l, hn, h => by
    have ih := natNodup N (l.erase N) (hn.erase _) (fun x hx => by
      have h1 := h x (List.mem_of_mem_erase hx)
      have h2 : x ≠ N := fun e => by
        subst e
        exact absurd hx (hn.not_mem_erase)
      omega)
    rw [List.length_erase] at ih
    split at ih <;> omega
theorem PN_nodup_len {n : Nat} {D : List (List Int)} (hn : D.Nodup) (h : ∀ d ∈ D, PN n d) : D.length ≤ fact n := by
  have h1 : (D.map rankR).Nodup := by
    rw [List.nodup_iff_pairwise_ne, List.pairwise_map]
    rw [List.nodup_iff_pairwise_ne] at hn
    refine List.Pairwise.imp_of_mem ?_ hn
    intro a b ha hb hab e
    exact hab (rk_inj (h a ha) (h b hb) e)
  have := natNodup (fact n) (D.map rankR) h1 (fun x hx => by
    obtain ⟨d, hd, rfl⟩ := List.mem_map.1 hx
    exact rk_lt (h d hd))
  simpa using this
theorem natPermOf : ∀ {ys S : List Nat}, ys.Nodup → (∀ y ∈ ys, y ∈ S) → ys.length = S.length → ys.Perm S
  | [], S, _, _, h => by
    have : S = [] := List.eq_nil_of_length_eq_zero h.symm
    subst this; exact List.Perm.refl _
  | y :: t, S, hn, hs, h => by
    rw [List.nodup_cons] at hn
    have h1 := List.perm_cons_erase (hs y (by simp))
    have hl : t.length = (S.erase y).length := by have := h1.length_eq; simp at this h; omega
    have h2 := natPermOf (S := S.erase y) hn.2 (fun z hz => by
      have hne : z ≠ y := fun e => hn.1 (e ▸ hz)
      exact (List.mem_erase_of_ne hne).2 (hs z (by simp [hz]))) hl
    exact (h2.cons y).trans h1.symm
theorem mod_succ {t i : Nat} (h : t < i) : (t + 1) % i = if t + 1 = i then 0 else t + 1 := by
  split
  · rename_i e; rw [e, Nat.mod_self]
  · exact Nat.mod_eq_of_lt (by omega)
theorem mvS_lt {n k i j : Int} (h : mvB n k i j = true) {t : Nat} (ht : (t : Int) < n) : (mvS k i j t : Int) < n := by
  obtain ⟨h2, hh⟩ := mvB_two h
  unfold mvS
  rcases hh with ⟨rfl, h0, h1, h3⟩ | ⟨hk, h0, h1⟩
  · rw [if_pos rfl]; split
    · omega
    · split <;> omega
  · rcases hk with rfl | rfl
    · rw [if_neg (by omega), if_pos rfl]; split <;> omega
    · rw [if_neg (by omega), if_neg (by omega)]
      split
      · rename_i hlt
        rw [show ((t : Int) + 1).toNat = t + 1 by omega, mod_succ (by omega)]
        split <;> omega
      · omega
theorem mvS_0 (i j : Int) (t : Nat) : mvS 0 i j t = if (t : Int) = i then j.toNat else if (t : Int) = j then i.toNat else t := rfl
theorem mvS_1 (i j : Int) (t : Nat) : mvS 1 i j t = if (t : Int) < i then (i - 1 - t).toNat else t := rfl
theorem mvS_2 (i j : Int) (t : Nat) : mvS 2 i j t = if (t : Int) < i then ((t : Int) + 1).toNat % i.toNat else t := rfl
theorem mvS_inj {n k i j : Int} (h : mvB n k i j = true) {s t : Nat} (hst : mvS k i j s = mvS k i j t) : s = t := by
  obtain ⟨h2, hh⟩ := mvB_two h
  clear h
  rcases hh with ⟨rfl, h0, h1, h3⟩ | ⟨hk, h0, h1⟩
  · rw [mvS_0, mvS_0] at hst
    split at hst <;> split at hst <;> (try split at hst) <;> (try split at hst) <;> omega
  · rcases hk with rfl | rfl
    · rw [mvS_1, mvS_1] at hst
      split at hst <;> split at hst <;> omega
    · rw [mvS_2, mvS_2, show ((s : Int) + 1).toNat = s + 1 by omega, show ((t : Int) + 1).toNat = t + 1 by omega] at hst
      by_cases ha : (s : Int) < i
      · rw [if_pos ha, mod_succ (by omega)] at hst
        by_cases hb : (t : Int) < i
        · rw [if_pos hb, mod_succ (by omega)] at hst
          split at hst <;> split at hst <;> omega
        · rw [if_neg hb] at hst
          split at hst <;> omega
      · rw [if_neg ha] at hst
        by_cases hb : (t : Int) < i
        · rw [if_pos hb, mod_succ (by omega)] at hst
          split at hst <;> omega
        · rw [if_neg hb] at hst
          exact hst
/-- a move only orders anew -/
theorem mvL_perm {k i j : Int} {l : List Int} (h : mvB l.length k i j = true) : (mvL k i j l).Perm l := by
  have h1 : ((List.range l.length).map (mvS k i j)).Perm (List.range l.length) := by
    refine natPermOf ?_ (fun y hy => ?_) (by simp)
    · rw [List.nodup_iff_pairwise_ne, List.pairwise_map]
      exact List.pairwise_lt_range.imp (fun {a b} hab e => by have := mvS_inj h e; omega)
    · obtain ⟨t, ht, rfl⟩ := List.mem_map.1 hy
      have := mvS_lt h (t := t) (by have := List.mem_range.1 ht; omega)
      exact List.mem_range.2 (by omega)
  have h2 := h1.map (fun t => l.getD t 0)
  rw [List.map_map] at h2
  have h3 : (List.range l.length).map (fun t => l.getD t 0) = l := by
    apply List.ext_getElem
    · simp
    · intro t a b
      simp only [List.getElem_map, List.getElem_range]
      exact getD_at b
  rw [h3] at h2
  exact h2
theorem mvM_PN {n : Nat} {m : Mv} {l : List Int} (h : PN n l) (hm : mvB n m.1 m.2.1 m.2.2 = true) : PN n (mvM m l) := (mvL_perm (by rw [h.len]; exact hm)).trans h
end Go.Proofs.Yteenmndgejeihaa
