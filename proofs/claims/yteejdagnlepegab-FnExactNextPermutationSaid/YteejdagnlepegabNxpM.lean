/- Plain facts: ranks of orders and the orders of ranks undo each other; ranks of lists that rise and that fall. -/
import Derived.Test.YteejdagnlepegabPerm6
import Derived.Test.YteejdagnlepegabRank1
import Derived.Test.YteejdagnlepegabAt1
namespace Go.Proofs.Yteejdagnlepegab
open Go.RowKit
set_option linter.unusedVariables false

theorem countLt_perm {l l' : List Int} (h : l.Perm l') (x : Int) : countLt l x = countLt l' x := by
  unfold countLt
  exact (h.filter _).length_eq
theorem countLt_all {l : List Int} {x : Int} (h : ∀ y ∈ l, y < x) : countLt l x = l.length := by
  unfold countLt
  rw [List.filter_eq_self.2 (fun y hy => by simpa using h y hy)]
theorem countLt_none {l : List Int} {x : Int} (h : ∀ y ∈ l, ¬ y < x) : countLt l x = 0 := by
  unfold countLt
  rw [List.filter_eq_nil_iff.2 (fun y hy => by simpa using h y hy)]; rfl
theorem countLt_app (l l' : List Int) (x : Int) : countLt (l ++ l') x = countLt l x + countLt l' x := by simp [countLt]
theorem fact_succ' (m : Nat) : fact (m + 1) = m * fact m + fact m := by rw [fact, Nat.add_mul]; omega
theorem fact_pos' : ∀ m, 0 < fact m
  | 0 => Nat.one_pos
  | m + 1 => by rw [fact_succ']; have := fact_pos' m; omega
theorem rankR_desc : ∀ {l : List Int}, l.Pairwise (fun a b => b < a) → rankR l + 1 = fact l.length
  | [], _ => rfl
  | x :: t, h => by
    rw [List.pairwise_cons] at h
    have ih := rankR_desc h.2
    rw [rankR, countLt_cons, countLt_all h.1]
    show _ = fact (t.length + 1)
    rw [fact_succ']; omega
theorem rankR_asc : ∀ {l : List Int}, l.Pairwise (fun a b => a < b) → rankR l = 0
  | [], _ => rfl
  | x :: t, h => by
    rw [List.pairwise_cons] at h
    rw [rankR, countLt_cons, countLt_none (fun y hy => by have := h.1 y hy; omega), rankR_asc h.2]; simp
theorem rankR_pre {l l' : List Int} (h : l.Perm l') : ∀ pre : List Int, rankR (pre ++ l) + rankR l' = rankR (pre ++ l') + rankR l
  | [] => by simp; omega
  | p :: pre => by
    have ih := rankR_pre h pre
    rw [List.cons_append, List.cons_append, rankR, rankR, countLt_cons, countLt_cons, countLt_perm (List.Perm.append_left pre h) p]
    have : (pre ++ l).length = (pre ++ l').length := by simp [h.length_eq]
    rw [this]; omega
/-- the element that as many elements are less than -/
theorem sorted_at : ∀ {S : List Int}, S.Pairwise (fun a b => a < b) → ∀ {y : Int}, y ∈ S → countLt S y < S.length ∧ S.getD (countLt S y) 0 = y
  | [], _, y, h => absurd h (by simp)
  | x :: t, hs, y, h => by
    rw [List.pairwise_cons] at hs
    rcases List.mem_cons.1 h with rfl | h
    · have h0 : countLt (y :: t) y = 0 := countLt_none (fun z hz => by
        rcases List.mem_cons.1 hz with rfl | hz
        · omega
        · have := hs.1 z hz; omega)
      rw [h0]; exact ⟨by simp, rfl⟩
    · have hxy := hs.1 y h
      obtain ⟨a, b⟩ := sorted_at hs.2 h
      have h1 : countLt (x :: t) y = countLt t y + 1 := by simp [countLt, hxy]
      rw [h1]
      exact ⟨by simp; omega, by rw [List.getD_cons_succ]; exact b⟩
theorem eraseIdx_perm : ∀ (l : List Int) (i : Nat) (h : i < l.length), (l[i] :: l.eraseIdx i).Perm l
  | x :: t, 0, _ => List.Perm.refl _
  | x :: t, i + 1, h => (List.Perm.swap x (t[i]'(by simpa using h)) (t.eraseIdx i)).trans ((eraseIdx_perm t i (by simpa using h)).cons x)
theorem atR_rankR : ∀ {ys S : List Int}, S.Pairwise (fun a b => a < b) → ys.Perm S → atR S.length S (rankR ys) = ys
  | [], S, _, h => by
    have : S = [] := by simpa using h.symm
    subst this; rfl
  | y :: t, S, hs, h => by
    have hl : S.length = t.length + 1 := by rw [← h.length_eq]; rfl
    have hy : y ∈ S := h.subset (by simp)
    obtain ⟨a, b⟩ := sorted_at hs hy
    have hc : countLt S y = countLt t y := by rw [← countLt_perm h y, countLt_cons]
    rw [hc] at a b
    have hr := rankR_lt t
    have hd : rankR (y :: t) / fact t.length = countLt t y := by
      rw [rankR, countLt_cons, Nat.mul_comm, Nat.mul_add_div (fact_pos' _), Nat.div_eq_of_lt hr]; rfl
    have hm : rankR (y :: t) % fact t.length = rankR t := by
      rw [rankR, countLt_cons, Nat.mul_comm, Nat.mul_add_mod, Nat.mod_eq_of_lt hr]
    have hsy : S[countLt t y] = y := by rw [getD_at a] at b; exact b
    have hp : t.Perm (S.eraseIdx (countLt t y)) := by
      have h1 := eraseIdx_perm S _ a
      rw [hsy] at h1
      exact (List.Perm.cons_inv (h.trans h1.symm))
    have ih := atR_rankR (hs.sublist (List.eraseIdx_sublist S _)) hp
    rw [← hp.length_eq] at ih
    rw [hl, atR, hd, hm, b, ih]
theorem perm_of : ∀ {ys S : List Int}, ys.Nodup → (∀ y ∈ ys, y ∈ S) → ys.length = S.length → ys.Perm S
  | [], S, _, _, h => by
    have : S = [] := List.eq_nil_of_length_eq_zero h.symm
    subst this; exact List.Perm.refl _
  | y :: t, S, hn, hs, h => by
    rw [List.nodup_cons] at hn
    have h1 := List.perm_cons_erase (hs y (by simp))
    have hl : t.length = (S.erase y).length := by have := h1.length_eq; simp at this h; omega
    have h2 := perm_of (S := S.erase y) hn.2 (fun z hz => by
      have hne : z ≠ y := fun e => hn.1 (e ▸ hz)
      exact (List.mem_erase_of_ne hne).2 (hs z (by simp [hz]))) hl
    exact (h2.cons y).trans h1.symm
theorem upTo_sorted (n : Nat) : (upTo n).Pairwise (fun a b => a < b) := by
  unfold upTo
  rw [List.pairwise_map]
  exact List.pairwise_lt_range.imp (fun h => by omega)
end Go.Proofs.Yteejdagnlepegab
