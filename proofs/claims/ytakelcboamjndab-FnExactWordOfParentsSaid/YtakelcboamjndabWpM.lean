/- Parents lists as plain lists: which lists they are, and their words. No conditions. -/
import Derived.Test.YtakelcboamjndabGr1
import Derived.Test.YtakelcboamjndabIx
namespace Go.Proofs.Ytakelcboamjndab
open Go.RowKit
set_option linter.unusedVariables false

/-- nodes that are open, the last one first, and -1 -/
def chW (ps : List Int) : List Int → Prop
  | [] => False
  | [a] => a = -1
  | a :: b :: r => 0 ≤ a ∧ b < a ∧ a < ps.length ∧ ps.getD a.toNat 0 = b ∧ chW ps (b :: r)
/-- what is open from p on -/
def dT (p : Int) : List Int → List Int
  | [] => []
  | a :: r => if a = p then a :: r else dT p r
def trB : List Int → Nat → List Int → Bool
  | [], _, _ => true
  | p :: r, i, S => decide (dT p S ≠ []) && trB r (i + 1) ((i : Int) :: dT p S)
def wdT : List Int → Nat → List Int → List Int
  | [], _, S => List.replicate (S.length - 1) 0
  | p :: r, i, S => List.replicate (S.length - (dT p S).length) 0 ++ (1 :: wdT r (i + 1) ((i : Int) :: dT p S))
def wpB (ps : List Int) : Bool := trB ps 0 [-1] && decide (ps.length ≤ 12)
def wpRes (ps : List Int) : List Int := if wpB ps = true then wdT ps 0 [-1] else []
theorem dT_le (p : Int) : ∀ S : List Int, (dT p S).length ≤ S.length
  | [] => Nat.le_refl _
  | a :: r => by
    rw [dT]
    split
    · exact Nat.le_refl _
    · have := dT_le p r; rw [List.length_cons]; omega
theorem dT_head {p : Int} : ∀ {S : List Int}, dT p S ≠ [] → ∃ r, dT p S = p :: r
  | [], h => absurd rfl h
  | a :: r, h => by
    rw [dT] at h ⊢
    split
    · rename_i e; exact ⟨r, by rw [e]⟩
    · rename_i e
      rw [if_neg e] at h
      exact dT_head h
theorem dT_ch {ps : List Int} {p : Int} : ∀ {S : List Int}, chW ps S → dT p S ≠ [] → chW ps (dT p S)
  | [], h, _ => h.elim
  | [a], h, hn => by
    rw [dT] at hn ⊢
    split
    · exact h
    · rename_i e; rw [if_neg e, dT] at hn; exact absurd rfl hn
  | a :: b :: r, h, hn => by
    rw [dT] at hn ⊢
    split
    · exact h
    · rename_i e
      rw [if_neg e] at hn
      exact dT_ch h.2.2.2.2 hn
theorem chW_push {ps : List Int} {i : Nat} {p : Int} {r : List Int} (h : chW ps (p :: r)) (hi : i < ps.length) (hp : ps.getD i 0 = p) (hlt : p < i) : chW ps ((i : Int) :: p :: r) :=
  ⟨by omega, hlt, by omega, by rw [Int.toNat_natCast]; exact hp, h⟩
theorem chW_low {ps : List Int} : ∀ {S : List Int}, chW ps S → ∀ x ∈ S, -1 ≤ x ∧ x ≤ S.headD 0
  | [], h, _, _ => h.elim
  | [a], h, x, hx => by
    have h1 : a = -1 := h
    have h2 : x = a := by simpa using hx
    exact ⟨by omega, by rw [h2]; exact Int.le_refl _⟩
  | a :: b :: r, h, x, hx => by
    have ih := chW_low h.2.2.2.2
    rcases List.mem_cons.1 hx with h1 | h1
    · subst h1
      exact ⟨by have := h.1; omega, Int.le_refl _⟩
    · have h2 := ih x h1
      have h3 := h.2.1
      simp only [List.headD_cons] at h2 ⊢
      exact ⟨h2.1, by omega⟩
theorem wdT_len : ∀ (r : List Int) (i : Nat) (S : List Int), S ≠ [] → trB r i S = true → (wdT r i S).length + 1 = 2 * r.length + S.length
  | [], i, S, h, _ => by
    have := List.length_pos_iff.2 h
    simp [wdT]; omega
  | p :: r, i, S, h, ht => by
    rw [trB, Bool.and_eq_true] at ht
    have ih := wdT_len r (i + 1) ((i : Int) :: dT p S) (by simp) ht.2
    have h1 := dT_le p S
    rw [wdT]
    simp at ih ⊢
    omega
theorem wd_len {ps : List Int} (h : trB ps 0 [-1] = true) : (wdT ps 0 [-1]).length = 2 * ps.length := by
  have := wdT_len ps 0 [-1] (by simp) h
  simp at this; omega
theorem bound_WordOfParents (ps : List Int) : (wpRes ps).length ≤ 1048576 := by
  unfold wpRes
  split
  · rename_i h
    unfold wpB at h
    rw [Bool.and_eq_true, decide_eq_true_eq] at h
    rw [wd_len h.1]; omega
  · simp
/-- where p stands in the stack, read from below -/
theorem ix_app {x : Int} : ∀ {l m : List Int}, x ∉ l → ixL x (l ++ x :: m) = l.length
  | [], m, _ => by simp [ixL]
  | y :: l, m, h => by
    rw [List.cons_append, ixL, if_neg (by rintro rfl; simp at h), ix_app (by simp at h; exact h.2)]; rfl
theorem dT_parts {ps : List Int} {p : Int} : ∀ {S : List Int}, chW ps S → dT p S ≠ [] → ∃ q, S = q ++ dT p S ∧ p ∉ q
  | [], h, _ => h.elim
  | [a], h, hn => by
    rw [dT] at hn ⊢
    split
    · exact ⟨[], rfl, by simp⟩
    · rename_i e; rw [if_neg e, dT] at hn; exact absurd rfl hn
  | a :: b :: r, h, hn => by
    rw [dT] at hn ⊢
    split
    · exact ⟨[], rfl, by simp⟩
    · rename_i e
      rw [if_neg e] at hn
      obtain ⟨q, h1, h2⟩ := dT_parts h.2.2.2.2 hn
      exact ⟨a :: q, by rw [List.cons_append, ← h1], by simp; exact ⟨fun h3 => e h3.symm, h2⟩⟩
theorem chW_tail {ps : List Int} {a b : Int} {r : List Int} (h : chW ps (a :: b :: r)) : a ∉ b :: r := by
  intro hm
  have := (chW_low h.2.2.2.2 a hm).2
  have h2 := h.2.1
  simp only [List.headD_cons] at this
  omega
theorem chW_one {ps : List Int} {p : Int} {r : List Int} (h : chW ps (p :: r)) : p ∉ r := by
  cases r with
  | nil => simp
  | cons b r => exact chW_tail h
theorem dT_mem {p : Int} : ∀ {S : List Int}, dT p S ≠ [] ↔ p ∈ S
  | [] => by simp [dT]
  | a :: r => by
    rw [dT, List.mem_cons]
    split
    · rename_i e; simp [e]
    · rename_i e
      rw [dT_mem]
      exact ⟨.inr, fun h => h.elim (fun h => absurd h.symm e) id⟩
/-- the place from below, and what lies up to it -/
theorem open_ix {ps : List Int} {p : Int} {S : List Int} (h : chW ps S) (hp : p ∈ S) : ixL p S.reverse + 1 = (dT p S).length ∧ S.reverse.take (ixL p S.reverse + 1) = (dT p S).reverse ∧ (dT p S).length ≤ S.length := by
  have hn := dT_mem.2 hp
  obtain ⟨r, hr⟩ := dT_head hn
  have hc := dT_ch h hn
  obtain ⟨q, hq, _⟩ := dT_parts h hn
  have h2 := dT_le p S
  have h3 : S.reverse = r.reverse ++ p :: q.reverse := by rw [hq, hr]; simp
  rw [hr] at hc
  have h4 : ixL p S.reverse = r.length := by
    rw [h3, ix_app (by simpa using chW_one hc)]; simp
  have h5 : ixL p S.reverse + 1 = (dT p S).length := by rw [h4, hr]; simp
  refine ⟨h5, ?_, h2⟩
  rw [h5, hr, h3]
  rw [show (p :: r).length = (r.reverse ++ [p]).length by simp, show r.reverse ++ p :: q.reverse = (r.reverse ++ [p]) ++ q.reverse by simp, List.take_left' rfl]
  simp
end Go.Proofs.Ytakelcboamjndab
