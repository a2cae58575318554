/- Plain facts: the next permutation has the next rank. -/
import Derived.Test.YteejdagnlepegabNxpM
import Derived.Test.YteejdagnlepegabRank2
import Derived.Test.YteejdagnlepegabAt2
namespace Go.Proofs.Yteejdagnlepegab
open Go.RowKit
set_option linter.unusedVariables false

theorem permB_nodup {xs : List Int} (h : permB xs = true) : xs.Nodup := by
  rw [permB, allTo_iff] at h
  rw [List.nodup_iff_pairwise_ne, List.pairwise_iff_getElem]
  intro i j hi hj hij e
  have h1 := h j hj
  simp only [permAt, Bool.and_eq_true, freshAt, Bool.not_eq_true'] at h1
  have h2 : hasB (xs.take j) (xs.getD j 0) = true := by
    rw [hasB_iff, getD_at hj, ← e]
    exact List.mem_take_iff_getElem.2 ⟨i, by omega, rfl⟩
  rw [h2] at h1
  exact absurd h1.2 (by simp)
theorem permB_perm {xs : List Int} (h : permB xs = true) : xs.Perm (upTo xs.length) := by
  refine perm_of (permB_nodup h) (fun y hy => ?_) (by rw [upTo_length])
  obtain ⟨i, hi, rfl⟩ := List.mem_iff_getElem.1 hy
  have := permB_range h hi
  rw [getD_at hi] at this
  rw [upTo, List.mem_map]
  exact ⟨xs[i].toNat, List.mem_range.2 (by omega), by omega⟩
/-- the swap and the turn, of a list in its parts -/
theorem nxtL_parts (pre A B : List Int) (x y : Int) : nxtL (pre ++ x :: (A ++ y :: B)) pre.length (pre.length + 1 + A.length) = pre ++ y :: (A ++ x :: B).reverse := by
  have hi : (pre ++ x :: (A ++ y :: B)).getD pre.length 0 = x := by simp
  have hj : (pre ++ x :: (A ++ y :: B)).getD (pre.length + 1 + A.length) 0 = y := by
    rw [List.getD_eq_getElem?_getD, List.getElem?_append_right (by omega), show pre.length + 1 + A.length - pre.length = A.length + 1 by omega]
    simp
  have hs : swapL (pre ++ x :: (A ++ y :: B)) pre.length (pre.length + 1 + A.length) = pre ++ y :: (A ++ x :: B) := by
    rw [swapL, hi, hj, List.set_append_right _ _ (Nat.le_refl _), Nat.sub_self, List.set_cons_zero, List.set_append_right _ _ (by omega), show pre.length + 1 + A.length - pre.length = A.length + 1 by omega, List.set_cons_succ, List.set_append_right _ _ (Nat.le_refl _), Nat.sub_self, List.set_cons_zero]
  rw [nxtL, hs]
  rw [show pre ++ y :: (A ++ x :: B) = (pre ++ [y]) ++ (A ++ x :: B) by simp]
  rw [List.take_left' (by simp), List.drop_left' (by simp)]
  simp
/-- the rank rises by 1 -/
theorem rank_parts {pre A B : List Int} {x y : Int} (hd : (A ++ y :: B).Pairwise (fun a b => b < a)) (hxy : x < y) (hB : ∀ b ∈ B, b < x) :
    rankR (pre ++ y :: (A ++ x :: B).reverse) = rankR (pre ++ x :: (A ++ y :: B)) + 1 := by
  rw [List.pairwise_append, List.pairwise_cons] at hd
  obtain ⟨dA, ⟨dyB, dB⟩, dAB⟩ := hd
  have hAy : ∀ a ∈ A, y < a := fun a ha => dAB a ha y (by simp)
  have hasc : ((A ++ x :: B).reverse).Pairwise (fun a b => a < b) := by
    rw [List.pairwise_reverse, List.pairwise_append, List.pairwise_cons]
    refine ⟨dA, ⟨hB, dB⟩, fun a ha b hb => ?_⟩
    have := hAy a ha
    rcases List.mem_cons.1 hb with rfl | hb
    · omega
    · have := hB b hb; omega
  have hdesc : (A ++ y :: B).Pairwise (fun a b => b < a) := by
    rw [List.pairwise_append, List.pairwise_cons]; exact ⟨dA, ⟨dyB, dB⟩, dAB⟩
  have hperm : (x :: (A ++ y :: B)).Perm (y :: (A ++ x :: B).reverse) := by
    have h1 : (x :: (A ++ y :: B)).Perm (x :: y :: (A ++ B)) := List.perm_middle.cons x
    have h2 : (y :: (A ++ x :: B)).Perm (y :: x :: (A ++ B)) := List.perm_middle.cons y
    exact (h1.trans ((List.Perm.swap y x (A ++ B)).trans h2.symm)).trans ((List.reverse_perm (A ++ x :: B)).symm.cons y)
  have h1 := rankR_pre hperm pre
  have c1 : countLt (A ++ y :: B) x = B.length := by
    rw [countLt_app, countLt_none (fun a ha => by have := hAy a ha; omega), Nat.zero_add]
    have : countLt (y :: B) x = countLt B x := by simp [countLt, show ¬ y < x by omega]
    rw [this, countLt_all hB]
  have c2 : countLt ((A ++ x :: B).reverse) y = B.length + 1 := by
    rw [countLt_perm (List.reverse_perm _) y, countLt_app, countLt_none (fun a ha => by have := hAy a ha; omega), Nat.zero_add, countLt_all (fun b hb => by
      rcases List.mem_cons.1 hb with rfl | hb
      · exact hxy
      · have := hB b hb; omega)]
    rfl
  have r1 : rankR (x :: (A ++ y :: B)) = B.length * fact (A ++ y :: B).length + rankR (A ++ y :: B) := by rw [rankR, countLt_cons, c1]
  have r2 : rankR (y :: (A ++ x :: B).reverse) = (B.length + 1) * fact (A ++ x :: B).reverse.length + 0 := by rw [rankR, countLt_cons, c2, rankR_asc hasc]
  have r3 := rankR_desc hdesc
  have hl : (A ++ x :: B).reverse.length = (A ++ y :: B).length := by simp; omega
  rw [hl, Nat.add_mul, Nat.one_mul] at r2
  omega
theorem perm_parts (pre A B : List Int) (x y : Int) : (pre ++ y :: (A ++ x :: B).reverse).Perm (pre ++ x :: (A ++ y :: B)) := by
  refine List.Perm.append_left pre ?_
  have h1 : (x :: (A ++ y :: B)).Perm (x :: y :: (A ++ B)) := List.perm_middle.cons x
  have h2 : (y :: (A ++ x :: B)).Perm (y :: x :: (A ++ B)) := List.perm_middle.cons y
  exact ((h1.trans ((List.Perm.swap y x (A ++ B)).trans h2.symm)).trans ((List.reverse_perm (A ++ x :: B)).symm.cons y)).symm
theorem lastIx_after (f : Nat → Bool) : ∀ n (t : Nat), lastIx f n < t → t < n → f t = false
  | 0, t, _, h => absurd h (by omega)
  | n + 1, t, h1, h2 => by
    rw [lastIx] at h1
    split at h1
    · omega
    · rename_i hn
      rcases Nat.lt_or_ge t n with h3 | h3
      · exact lastIx_after f n t h1 h3
      · have : t = n := by omega
        subst this; simpa using hn
theorem nodup_ne {xs : List Int} (h : xs.Nodup) {a b : Nat} (ha : a < xs.length) (hb : b < xs.length) (hab : a ≠ b) : xs.getD a 0 ≠ xs.getD b 0 := by
  rw [getD_at ha, getD_at hb]
  rw [List.nodup_iff_pairwise_ne, List.pairwise_iff_getElem] at h
  rcases Nat.lt_or_ge a b with h1 | h1
  · exact h a b ha hb h1
  · exact fun e => h b a hb ha (by omega) e.symm
theorem fall_from {xs : List Int} (hn : xs.Nodup) {i : Int} (h : lastIx (lessAt xs) (xs.length - 1) = i) : ∀ (d a : Nat), i < a → a + d + 1 < xs.length → xs.getD (a + d + 1) 0 < xs.getD a 0 := by
  have step : ∀ a : Nat, i < a → a + 1 < xs.length → xs.getD (a + 1) 0 < xs.getD a 0 := fun a h1 h2 => by
    have h3 := lastIx_after (lessAt xs) (xs.length - 1) a (by omega) (by omega)
    rw [lessAt, decide_eq_false_iff_not] at h3
    have := nodup_ne hn (a := a) (b := a + 1) (by omega) h2 (by omega)
    omega
  intro d
  induction d with
  | zero => intro a h1 h2; exact step a h1 (by omega)
  | succ d ih =>
    intro a h1 h2
    have h3 := ih a h1 (by omega)
    have h4 := step (a + d + 1) (by omega) (by omega)
    have : a + (d + 1) + 1 = a + d + 1 + 1 := by omega
    rw [this]; omega
theorem fall_drop {xs : List Int} (hn : xs.Nodup) {i : Int} (h : lastIx (lessAt xs) (xs.length - 1) = i) (s : Nat) (hs : i < s) : (xs.drop s).Pairwise (fun a b => b < a) := by
  rw [List.pairwise_iff_getElem]
  intro a b ha hb hab
  rw [List.length_drop] at ha hb
  rw [List.getElem_drop, List.getElem_drop]
  have := fall_from hn h (b - a - 1) (s + a) (by omega) (by omega)
  rw [show s + a + (b - a - 1) + 1 = s + b by omega, getD_at (by omega), getD_at (by omega)] at this
  exact this
theorem np_parts {xs : List Int} (hn : xs.Nodup) (h : 0 ≤ npI xs) : ∃ (pre A B : List Int) (x y : Int), xs = pre ++ x :: (A ++ y :: B) ∧ nxtL xs (npI xs).toNat (npJ xs).toNat = pre ++ y :: (A ++ x :: B).reverse ∧
    (A ++ y :: B).Pairwise (fun a b => b < a) ∧ x < y ∧ ∀ b ∈ B, b < x := by
  obtain ⟨i, j, h1, h2, h3, h4, h5, h6⟩ := np_ix h
  have e0 : xs = xs.take i ++ xs[i] :: (((xs.drop (i + 1)).take (j - (i + 1))) ++ xs[j] :: xs.drop (j + 1)) := by
    have e1 : xs.drop i = xs[i] :: xs.drop (i + 1) := List.drop_eq_getElem_cons (by omega)
    have e2 : xs.drop j = xs[j] :: xs.drop (j + 1) := List.drop_eq_getElem_cons h5
    have e3 : (xs.drop (i + 1)).drop (j - (i + 1)) = xs.drop j := by rw [List.drop_drop]; congr 1; omega
    rw [← e2, ← e3, List.take_append_drop, ← e1, List.take_append_drop]
  have e4 : ((xs.drop (i + 1)).take (j - (i + 1))) ++ xs[j] :: xs.drop (j + 1) = xs.drop (i + 1) := by
    have e2 : xs.drop j = xs[j] :: xs.drop (j + 1) := List.drop_eq_getElem_cons h5
    have e3 : (xs.drop (i + 1)).drop (j - (i + 1)) = xs.drop j := by rw [List.drop_drop]; congr 1; omega
    rw [← e2, ← e3, List.take_append_drop]
  rw [getD_at (show i < xs.length by omega), getD_at h5] at h6
  refine ⟨xs.take i, (xs.drop (i + 1)).take (j - (i + 1)), xs.drop (j + 1), xs[i], xs[j], e0, ?_, ?_, h6, ?_⟩
  · rw [h1, h2, Int.toNat_natCast, Int.toNat_natCast]
    have hp := nxtL_parts (xs.take i) ((xs.drop (i + 1)).take (j - (i + 1))) (xs.drop (j + 1)) xs[i] xs[j]
    rw [← e0] at hp
    have l1 : (xs.take i).length = i := by rw [List.length_take]; omega
    have l2 : ((xs.drop (i + 1)).take (j - (i + 1))).length = j - (i + 1) := by rw [List.length_take, List.length_drop]; omega
    rw [l1, l2, show i + 1 + (j - (i + 1)) = j by omega] at hp
    exact hp
  · rw [e4]
    exact fall_drop hn (show lastIx (lessAt xs) (xs.length - 1) = i from h1) (i + 1) (by omega)
  · intro b hb
    obtain ⟨t, ht, rfl⟩ := List.mem_iff_getElem.1 hb
    rw [List.length_drop] at ht
    rw [List.getElem_drop]
    have hj : lastIx (overAt xs (xs.getD i 0)) xs.length = j := by have h := h2; rw [npJ, h1, Int.toNat_natCast] at h; exact h
    have h7 := lastIx_after (overAt xs (xs.getD i 0)) xs.length (j + 1 + t) (by omega) (by omega)
    rw [overAt, decide_eq_false_iff_not] at h7
    have h8 := nodup_ne hn (a := i) (b := j + 1 + t) (by omega) (by omega) (by omega)
    rw [getD_at (show i < xs.length by omega), getD_at (show j + 1 + t < xs.length by omega)] at h7 h8
    omega
theorem np_spec {xs : List Int} (h : permB xs = true) : npB xs = patB (xs.length : Int) ((rankR xs : Int) + 1) ∧ npRes xs = patRes (xs.length : Int) ((rankR xs : Int) + 1) := by
  have hn := permB_nodup h
  have hl := permB_len h
  have hin : inB (xs.length : Int) 0 12 = true := inB_iff.2 ⟨by omega, by omega⟩
  by_cases hi : 0 ≤ npI xs
  · have hB : npB xs = true := by rw [npB, h, decide_eq_true hi]; rfl
    obtain ⟨pre, A, B, x, y, e1, e2, e3, e4, e5⟩ := np_parts hn hi
    have hr := rank_parts (pre := pre) e3 e4 e5
    rw [← e1, ← e2] at hr
    have hp := perm_parts pre A B x y
    rw [← e1, ← e2] at hp
    have hlt := rankR_lt (nxtL xs (npI xs).toNat (npJ xs).toNat)
    rw [hp.length_eq, hr] at hlt
    have hu := atR_rankR (upTo_sorted xs.length) (hp.trans (permB_perm h))
    rw [hr, upTo_length] at hu
    have hpat : patB (xs.length : Int) ((rankR xs : Int) + 1) = true := by
      rw [patB, hin, Int.toNat_natCast, inB_iff.2 ⟨by omega, by omega⟩]; rfl
    refine ⟨by rw [hB, hpat], ?_⟩
    rw [npRes_yes hB, patRes_yes hpat, Int.toNat_natCast, show ((rankR xs : Int) + 1).toNat = rankR xs + 1 by omega, hu]
  · have hB : npB xs = false := by rw [npB, decide_eq_false hi]; simp
    have hf := rankR_desc (l := xs) (by
      have := fall_drop hn (i := npI xs) rfl 0 (by omega)
      simpa using this)
    have hpat : patB (xs.length : Int) ((rankR xs : Int) + 1) = false := by
      rw [patB, Int.toNat_natCast]
      cases hb : inB ((rankR xs : Int) + 1) 0 ((fact xs.length : Int) - 1) with
      | false => simp
      | true => have := (inB_iff.1 hb).2; omega
    exact ⟨by rw [hB, hpat], by rw [npRes_no hB, patRes_no hpat]⟩
end Go.Proofs.Yteejdagnlepegab
