/- Plain facts: permutations of indices have these indices; the first place at which two lists differ. -/
import Derived.Test.YteenmndgejeihaaTrK
namespace Go.Proofs.Yteenmndgejeihaa
open Go.RowKit
set_option linter.unusedVariables false

theorem insT_perm (l : List Int) (p : Nat) (x : Int) : (insT l p x).Perm (x :: l) := by
  unfold insT
  have h := (List.perm_middle (a := x) (l₁ := l.take p) (l₂ := l.drop p))
  rwa [List.take_append_drop] at h
theorem upTo_snoc (n : Nat) : upTo (n + 1) = upTo n ++ [(n : Int)] := by simp [upTo, List.range_succ]
theorem trL_PN : ∀ n r, PN n (trL n r)
  | 0, _ => List.Perm.refl _
  | n + 1, r => by
    have ih := trL_PN n (r / (n + 1))
    have h : (trL (n + 1) r).Perm ((n : Int) :: trL n (r / (n + 1))) := insT_perm _ _ _
    show (trL (n + 1) r).Perm (upTo (n + 1))
    rw [upTo_snoc]
    exact h.trans ((List.Perm.cons _ ih).trans (List.perm_append_comm (l₁ := [(n : Int)])))
theorem ixL_ins {x : Int} : ∀ {l : List Int} {p : Nat}, x ∉ l → p ≤ l.length → ixL x (insT l p x) = p
  | l, 0, _, _ => by simp [insT, ixL]
  | y :: t, p + 1, h, hp => by
    have hne : y ≠ x := fun e => h (by simp [e])
    have ih := ixL_ins (x := x) (l := t) (p := p) (fun hm => h (List.mem_cons_of_mem _ hm)) (by simpa using hp)
    have e : insT (y :: t) (p + 1) x = y :: insT t p x := by simp [insT]
    rw [e, ixL, if_neg hne, ih]
theorem erase_ins {x : Int} : ∀ {l : List Int} {p : Nat}, p ≤ l.length → (insT l p x).eraseIdx p = l
  | l, 0, _ => by simp [insT]
  | y :: t, p + 1, hp => by
    have ih := erase_ins (x := x) (l := t) (p := p) (by simpa using hp)
    have e : insT (y :: t) (p + 1) x = y :: insT t p x := by simp [insT]
    rw [e, List.eraseIdx_cons_succ, ih]
theorem trR_trL : ∀ n r, r < fact n → trR n (trL n r) = r
  | 0, r, h => by
    have : r < 1 := h
    show 0 = r
    omega
  | n + 1, r, h => by
    have hq : r / (n + 1) < fact n := by
      rw [Nat.div_lt_iff_lt_mul (by omega), Nat.mul_comm]
      exact h
    have ih := trR_trL n (r / (n + 1)) hq
    have hl := trL_len n (r / (n + 1))
    have hp := trAt_le n r
    have hni : (n : Int) ∉ trL n (r / (n + 1)) := fun hm => by
      have := (trL_PN n (r / (n + 1))).nat hm
      omega
    have e : trL (n + 1) r = insT (trL n (r / (n + 1))) (trAt n r) n := rfl
    rw [trR, e, ixL_ins hni (by omega), erase_ins (by omega), ih, trAt_pot, potN_inv (by have := Nat.mod_lt r (show 0 < n + 1 by omega); omega)]
    have := Nat.div_add_mod r (n + 1)
    rw [Nat.mul_comm] at this
    exact this
/-- the first place at which two lists differ -/
def fdL : List Int → List Int → Nat
  | x :: s, y :: t => if x = y then fdL s t + 1 else 0
  | _, _ => 0
theorem fdL_lt : ∀ {a b : List Int}, a.length = b.length → a ≠ b → fdL a b < a.length ∧ a.getD (fdL a b) 0 ≠ b.getD (fdL a b) 0
  | [], [], _, h => absurd rfl h
  | x :: s, y :: t, hl, h => by
    rw [fdL]
    by_cases e : x = y
    · rw [if_pos e]
      have ih := fdL_lt (a := s) (b := t) (by simpa using hl) (fun e2 => h (by rw [e, e2]))
      refine ⟨by simp; exact ih.1, by simpa using ih.2⟩
    · rw [if_neg e]
      exact ⟨by simp, by simpa using e⟩
theorem fdL_same : ∀ {a b : List Int} {i : Nat}, a.length = b.length → i < fdL a b → a.getD i 0 = b.getD i 0
  | x :: s, y :: t, i, hl, h => by
    rw [fdL] at h
    split at h
    · rename_i e
      match i with
      | 0 => simpa using e
      | i + 1 =>
        have := fdL_same (a := s) (b := t) (i := i) (by simpa using hl) (by omega)
        simpa using this
    · omega
theorem fdL_comm : ∀ (a b : List Int), fdL a b = fdL b a
  | x :: s, y :: t => by
    rw [fdL, fdL, fdL_comm s t]
    by_cases e : x = y
    · rw [if_pos e, if_pos e.symm]
    · rw [if_neg e, if_neg (Ne.symm e)]
  | [], _ => by cases ‹List Int› <;> rfl
  | _ :: _, [] => rfl
/-- the next one of Trotter's list -/
def ntL (l : List Int) : List Int := trL l.length (trR l.length l + 1)
theorem ntL_ne {l : List Int} (h : PN l.length l) (hr : trR l.length l + 1 < fact l.length) : ntL l ≠ l := fun e => by
  have h1 := trR_trL l.length (trR l.length l + 1) hr
  have h2 : trR l.length (ntL l) = trR l.length l := by rw [e]
  unfold ntL at h2
  omega
theorem ntL_len (l : List Int) : (ntL l).length = l.length := trL_len _ _
def ntB (l : List Int) : Bool := permB l && decide (trR l.length l + 1 < fact l.length)
def ntRes (l : List Int) : List Int := if ntB l = true then ntL l else []
def ntV (l : List Int) : Int := if ntB l = true then (fdL l (ntL l) : Int) else 0
theorem ntRes_yes {l : List Int} (h : ntB l = true) : ntRes l = ntL l := by unfold ntRes; rw [if_pos h]
theorem ntRes_no {l : List Int} (h : ntB l = false) : ntRes l = [] := by unfold ntRes; rw [if_neg (by rw [h]; simp)]
theorem ntV_yes {l : List Int} (h : ntB l = true) : ntV l = fdL l (ntL l) := by unfold ntV; rw [if_pos h]
theorem ntV_no {l : List Int} (h : ntB l = false) : ntV l = 0 := by unfold ntV; rw [if_neg (by rw [h]; simp)]
theorem bound_NextTrotter (l : List Int) : (ntRes l).length ≤ 1048576 := by
  cases h : ntB l with
  | false => rw [ntRes_no h]; simp
  | true =>
    rw [ntRes_yes h, ntL_len]
    rw [ntB, Bool.and_eq_true] at h
    have := permB_len h.1
    omega
end Go.Proofs.Yteenmndgejeihaa
