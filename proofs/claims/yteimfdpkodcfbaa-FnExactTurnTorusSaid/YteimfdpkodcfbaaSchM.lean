/- Plain facts: the search that fills a word number by number finds the first good word in order. No conditions beyond the stated ones. -/
import Derived.Test.YteimfdpkodcfbaaMetM
namespace Go.Proofs.Yteimfdpkodcfbaa
set_option linter.unusedVariables false

/-- the answer of the first of the numbers from x on, d of them, that has one -/
def fstS {A : Type} (f : Nat → Option A) : Nat → Nat → Option A
  | _, 0 => none
  | x, d + 1 => match f x with
    | some a => some a
    | none => fstS f (x + 1) d
theorem fstS_some {A : Type} {f : Nat → Option A} {x d : Nat} {a : A} (h : f x = some a) : fstS f x (d + 1) = some a := by rw [fstS, h]
theorem fstS_none {A : Type} {f : Nat → Option A} {x d : Nat} (h : f x = none) : fstS f x (d + 1) = fstS f (x + 1) d := by rw [fstS, h]
/-- the search: a word is filled behind pre with rem numbers below b -/
def srcF (chk : List Int → Bool) (b : Nat) : Nat → List Int → Option (List Int)
  | 0, pre => some pre
  | rem + 1, pre => fstS (fun x => if chk (pre ++ [(x : Int)]) = true then srcF chk b rem (pre ++ [(x : Int)]) else none) 0 b
/-- the word with an index among those of n numbers below b -/
def cntW (b : Nat) : Nat → Nat → List Int
  | 0, _ => []
  | n + 1, k => ((k / b ^ n : Nat) : Int) :: cntW b n (k % b ^ n)
theorem cntW_len (b n k : Nat) : (cntW b n k).length = n := by
  induction n generalizing k with
  | zero => rfl
  | succ n ih => rw [cntW, List.length_cons, ih]
/-- what an answer of the search says -/
def SrIs (G : List Int → Prop) (b rem : Nat) (pre : List Int) : Option (List Int) → Prop
  | some L => ∃ k, k < b ^ rem ∧ L = pre ++ cntW b rem k ∧ G L ∧ ∀ j, j < k → ¬ G (pre ++ cntW b rem j)
  | none => ∀ k, k < b ^ rem → ¬ G (pre ++ cntW b rem k)
theorem srcF_is {chk : List Int → Bool} {b : Nat} {G : List Int → Prop} (hm : ∀ a c, G (a ++ c) → G a) (hc : ∀ pre (x : Nat), G pre → x < b → (chk (pre ++ [(x : Int)]) = true ↔ G (pre ++ [(x : Int)]))) :
    ∀ (rem : Nat) (pre : List Int), G pre → SrIs G b rem pre (srcF chk b rem pre) := by
  intro rem
  induction rem with
  | zero =>
    intro pre hg
    refine ⟨0, by simp, by simp [cntW], hg, fun j hj => by omega⟩
  | succ rem ih =>
    intro pre hg
    have key : ∀ d x, x + d = b → (∀ k, k < x * b ^ rem → ¬ G (pre ++ cntW b (rem + 1) k)) → SrIs G b (rem + 1) pre (fstS (fun x => if chk (pre ++ [(x : Int)]) = true then srcF chk b rem (pre ++ [(x : Int)]) else none) x d) := by
      intro d
      induction d with
      | zero =>
        intro x hx hno
        obtain rfl : x = b := by omega
        intro k hk
        exact hno k (by rw [Nat.pow_succ, Nat.mul_comm] at hk; exact hk)
      | succ d ihd =>
        intro x hx hno
        have hb0 : 0 < b ^ rem := Nat.pow_pos (by omega)
        have hsplit : ∀ k, x * b ^ rem ≤ k → k < (x + 1) * b ^ rem → pre ++ cntW b (rem + 1) k = (pre ++ [(x : Int)]) ++ cntW b rem (k - x * b ^ rem) := by
          intro k h1 h2
          have h3 : k / b ^ rem = x := by
            rw [Nat.add_mul, Nat.one_mul] at h2
            exact Nat.div_eq_of_lt_le h1 (by rw [Nat.succ_mul]; exact h2)
          have h4 : k % b ^ rem = k - x * b ^ rem := by
            have := Nat.div_add_mod k (b ^ rem)
            rw [h3, Nat.mul_comm] at this
            omega
          rw [cntW, h3, h4]
          simp
        have hnext : (∀ k, k < b ^ rem → ¬ G ((pre ++ [(x : Int)]) ++ cntW b rem k)) → ∀ k, k < (x + 1) * b ^ rem → ¬ G (pre ++ cntW b (rem + 1) k) := by
          intro h k hk
          rcases Nat.lt_or_ge k (x * b ^ rem) with q | q
          · exact hno k q
          · rw [hsplit k q hk]
            exact h _ (by rw [Nat.add_mul, Nat.one_mul] at hk; omega)
        by_cases hg2 : G (pre ++ [(x : Int)])
        · have hck := (hc pre x hg (by omega)).2 hg2
          have hsub := ih (pre ++ [(x : Int)]) hg2
          cases hs : srcF chk b rem (pre ++ [(x : Int)]) with
          | some L =>
            rw [hs] at hsub
            rw [fstS_some (a := L) (by rw [if_pos hck, hs])]
            obtain ⟨k, hk, e, hG, hl⟩ := hsub
            refine ⟨x * b ^ rem + k, ?_, ?_, hG, fun j hj => ?_⟩
            · have h1 : (x + 1) * b ^ rem ≤ b * b ^ rem := Nat.mul_le_mul_right _ (by omega)
              rw [Nat.add_mul, Nat.one_mul] at h1
              rw [Nat.pow_succ, Nat.mul_comm (b ^ rem)]
              omega
            · rw [e, hsplit _ (by omega) (by rw [Nat.add_mul, Nat.one_mul]; omega), Nat.add_sub_cancel_left]
            · rcases Nat.lt_or_ge j (x * b ^ rem) with q | q
              · exact hno j q
              · rw [hsplit j q (by rw [Nat.add_mul, Nat.one_mul]; omega)]
                exact hl _ (by omega)
          | none =>
            rw [hs] at hsub
            rw [fstS_none (by rw [if_pos hck, hs])]
            exact ihd (x + 1) (by omega) (hnext hsub)
        · have hck : ¬ chk (pre ++ [(x : Int)]) = true := fun h => hg2 ((hc pre x hg (by omega)).1 h)
          rw [fstS_none (by rw [if_neg hck])]
          exact ihd (x + 1) (by omega) (hnext (fun k hk h => hg2 (hm _ _ h)))
    exact key b 0 (by omega) (fun k hk => by omega)
/-- the last place of a window -/
def lsT (PL : List (List Int)) (i : Nat) : Int := mxT (PL.getD i []) ((PL.getD i []).length - 1)
/-- the windows in S have ranks, and different ones -/
structure Gd (rk : List Int → Int) (ok : List Int → Bool) (PL : List (List Int)) (ws : List Int) (S : Nat → Prop) : Prop where
  yes : ∀ i, i < PL.length → S i → ok (pkL ws (PL.getD i [])) = true
  inj : ∀ i j, i < PL.length → j < PL.length → S i → S j → rkT rk PL ws i = rkT rk PL ws j → i = j
/-- the windows of the first numbers -/
def GdT (rk : List Int → Int) (ok : List Int → Bool) (PL : List (List Int)) (ws : List Int) : Prop := Gd rk ok PL ws (fun i => lsT PL i < ws.length)
theorem mxT_ge (l : List Int) : ∀ (k j : Nat), j ≤ k → l.getD j 0 ≤ mxT l k
  | 0, j, h => by
    obtain rfl : j = 0 := by omega
    exact Int.le_refl _
  | k + 1, j, h => by
    rw [mxT]
    by_cases e : j = k + 1
    · subst e
      split <;> omega
    · have := mxT_ge l k j (by omega)
      split <;> omega
theorem pk_pre {a c l : List Int} (h : mxT l (l.length - 1) < a.length) (h0 : ∀ p ∈ l, 0 ≤ p) : pkL (a ++ c) l = pkL a l := by
  unfold pkL
  refine List.map_congr_left (fun p hp => ?_)
  obtain ⟨j, hj, rfl⟩ := List.getElem_of_mem hp
  have h1 := mxT_ge l (l.length - 1) j (by omega)
  rw [getD_at hj] at h1
  have h2 := h0 _ hp
  rw [List.getD_eq_getElem?_getD, List.getD_eq_getElem?_getD, List.getElem?_append_left (by omega)]
theorem GdT_pre {rk : List Int → Int} {ok : List Int → Bool} {PL : List (List Int)} (h0 : ∀ l ∈ PL, ∀ p ∈ l, 0 ≤ p) {a c : List Int} (h : GdT rk ok PL (a ++ c)) : GdT rk ok PL a := by
  have hmem : ∀ i, i < PL.length → PL.getD i [] ∈ PL := fun i hi => by
    rw [List.getD_eq_getElem?_getD, List.getElem?_eq_getElem hi]; exact List.getElem_mem hi
  have hpk : ∀ i, i < PL.length → lsT PL i < a.length → pkL (a ++ c) (PL.getD i []) = pkL a (PL.getD i []) := fun i hi hs => pk_pre hs (h0 _ (hmem i hi))
  have hs2 : ∀ i, lsT PL i < a.length → lsT PL i < (a ++ c).length := fun i h => by rw [List.length_append]; omega
  refine ⟨fun i hi hs => ?_, fun i j hi hj hsi hsj e => ?_⟩
  · rw [← hpk i hi hs]; exact h.yes i hi (hs2 i hs)
  · refine h.inj i j hi hj (hs2 i hsi) (hs2 j hsj) ?_
    unfold rkT at e ⊢
    rw [hpk i hi hsi, hpk j hj hsj, e]
/-- a whole word is good just if no window comes again -/
theorem GdT_all {rk : List Int → Int} {ok : List Int → Bool} {PL : List (List Int)} {ws : List Int} (hp : ∀ l ∈ PL, Placed ws.length l) : GdT rk ok PL ws ↔ lyB rk ok PL ws = true := by
  have hlast : ∀ i, i < PL.length → lsT PL i < ws.length := fun i hi => by
    have hm : PL.getD i [] ∈ PL := by rw [List.getD_eq_getElem?_getD, List.getElem?_eq_getElem hi]; exact List.getElem_mem hi
    obtain ⟨q, h1, h2⟩ := (hp _ hm).last
    unfold lsT
    omega
  unfold lyB
  rw [allTo_iff]
  constructor
  · intro h i hi
    unfold newW
    rw [Bool.and_eq_true, Bool.not_eq_true']
    refine ⟨?_, h.yes i hi (hlast i hi)⟩
    cases hm : metW (rkT rk PL ws) i (rkT rk PL ws i) with
    | false => rfl
    | true =>
      obtain ⟨j, hj, e⟩ := metW_iff.1 hm
      have := h.inj j i (by omega) hi (hlast j (by omega)) (hlast i hi) e
      omega
  · intro h
    refine ⟨fun i hi _ => ?_, fun i j hi hj _ _ e => ?_⟩
    · have := h i hi
      unfold newW at this
      rw [Bool.and_eq_true] at this
      exact this.2
    · have hlt : ∀ a b, a < b → b < PL.length → rkT rk PL ws a ≠ rkT rk PL ws b := once_apart ((allTo_iff _ _).2 h)
      rcases Nat.lt_trichotomy i j with q | q | q
      · exact absurd e (hlt i j q hj)
      · exact q
      · exact absurd e.symm (hlt j i q hi)
end Go.Proofs.Yteimfdpkodcfbaa
