/- What walk does where a function tells what is near, as a plain function; what an append in it leaves. No conditions. -/
import Derived.Test.YtijjdidljoicfaaDoorKept
namespace Go.Proofs.YtijjdidljoicfaaDoor
open Go.RowKit
set_option linter.unusedVariables false

/-- x is near the last element of p, if there is one -/
def folG (nr : Int → Int → Bool) (p : List Int) (x : Int) : Bool := decide (p.length = 0) || nr (p.getD (p.length - 1) 0) x
def stopG (nr : Int → Int → Bool) (p : List Int) (x : Int) : Bool := hasB p x || !(folG nr p x)
def wkL {σ : Type} (st : List Int → Int → Bool) (f : List Int → σ → Bool × σ) (p : List Int) : List Int → σ → Bool × σ
  | [], s => (true, s)
  | x :: xs, s => if st p x = true then wkL st f p xs s else if (f (p ++ [x]) s).1 = true then wkL st f p xs (f (p ++ [x]) s).2 else (false, (f (p ++ [x]) s).2)
def wk {σ : Type} (st : List Int → Int → Bool) (ws : List Int) (vis : List Int → σ → Bool × σ) : Nat → List Int → σ → Bool × σ
  | 0, p, s => vis p s
  | m + 1, p, s => wkL st (wk st ws vis m) p ws s
theorem wkL_skip {σ : Type} {st : List Int → Int → Bool} {f : List Int → σ → Bool × σ} {p ws : List Int} {k : Nat} {s : σ} (hk : k < ws.length) (h : st p ws[k] = true) : wkL st f p (ws.drop k) s = wkL st f p (ws.drop (k + 1)) s := by
  rw [List.drop_eq_getElem_cons hk, wkL, if_pos h]
theorem wkL_on {σ : Type} {st : List Int → Int → Bool} {f : List Int → σ → Bool × σ} {p ws : List Int} {k : Nat} {s s1 : σ} (hk : k < ws.length) (h : st p ws[k] = false) (hf : f (p ++ [ws[k]]) s = (true, s1)) : wkL st f p (ws.drop k) s = wkL st f p (ws.drop (k + 1)) s1 := by
  rw [List.drop_eq_getElem_cons hk, wkL, if_neg (by rw [h]; simp), hf]; rfl
theorem wkL_off {σ : Type} {st : List Int → Int → Bool} {f : List Int → σ → Bool × σ} {p ws : List Int} {k : Nat} {s s1 : σ} (hk : k < ws.length) (h : st p ws[k] = false) (hf : f (p ++ [ws[k]]) s = (false, s1)) : wkL st f p (ws.drop k) s = (false, s1) := by
  rw [List.drop_eq_getElem_cons hk, wkL, if_neg (by rw [h]; simp), hf]; rfl
theorem wkL_end {σ : Type} {st : List Int → Int → Bool} {f : List Int → σ → Bool × σ} {p ws : List Int} {s : σ} : wkL st f p (ws.drop ws.length) s = (true, s) := by
  rw [List.drop_length]; rfl
theorem wk_live {σ : Type} {st : List Int → Int → Bool} {ws : List Int} {vis : List Int → σ → Bool × σ} {live : σ → Prop} (HL : ∀ p s s1, live s → vis p s = (true, s1) → live s1) : ∀ (m : Nat) (p : List Int) (s s1 : σ), live s → wk st ws vis m p s = (true, s1) → live s1 := by
  intro m
  induction m with
  | zero => intro p s s1 h e; exact HL p s s1 h e
  | succ m ih =>
    intro p s s1 h e
    rw [wk] at e
    have key : ∀ (vs : List Int) (s : σ), live s → wkL st (wk st ws vis m) p vs s = (true, s1) → live s1 := by
      intro vs
      induction vs with
      | nil => intro s h e; simp only [wkL, Prod.mk.injEq, true_and] at e; rw [← e]; exact h
      | cons x t iht =>
        intro s h e
        rw [wkL] at e
        split at e
        · exact iht s h e
        · obtain ⟨r, hr⟩ : ∃ r, r = wk st ws vis m (p ++ [x]) s := ⟨_, rfl⟩
          rw [← hr] at e
          obtain ⟨b, s2⟩ := r
          cases b with
          | true => exact iht s2 (ih _ _ _ h hr.symm) (by simpa using e)
          | false => simp at e
    exact key ws s h e
theorem Fr.of_below {M : Nat} {row : Option Nat} {w w' : World} (h : Below w.heap.size w w') : Fr M row w w' := ⟨h.size, fun k _ hk _ => h.block k hk⟩
/-- the row that append makes of x alone -/
abbrev oneObj (x : Int) : Obj := .cells #[.int .i64 x] 3
theorem wk_all {σ : Type} {J : World → σ → Prop} {M c : Nat} {ao : Option Addr} {p : List Int} {x : Int} {s : σ} {W : World}
    (HJ : ∀ w w' row, J w s → w.grownBy w' row → (∀ k, row = some k → M ≤ k) → J w' s) (hj : J W s) (hown : Own W M (.slice ao p.length c) p) (hM : M ≤ W.heap.size) :
    ∀ g1 cap1 w1, w1.ownsRow M 3 1 (.slice (some ⟨g1, 0, none⟩) (p.length + 1) cap1) (p.length + 1) (p.map (Value.int .i64) ++ [.int .i64 x]) →
      (W.alloc (oneObj x)).grownBy w1 (Value.ownBlock (.slice ao p.length c)) → Own w1 M (.slice (some ⟨g1, 0, none⟩) (p.length + 1) cap1) (p ++ [x]) ∧ J w1 s ∧ M ≤ w1.heap.size := fun g1 cap1 w1 h1 h2 =>
  ⟨Own.snoc h1, HJ _ _ _ (HJ _ _ none hj (World.grownBy_alloc W _ none) (fun k hk => by cases hk)) h2 (fun k hk => (World.ownsRow.lt hown k hk).1), by have := h2.size; simp at this; omega⟩
theorem wk_end {M c : Nat} {ao : Option Addr} {p : List Int} {x : Int} {w W : World} (hfr : Fr M (Value.ownBlock (.slice ao p.length c)) w W) (hown : Own W M (.slice ao p.length c) p) :
    ∀ g1 cap1 w1 w2, (W.alloc (oneObj x)).grownBy w1 (Value.ownBlock (.slice ao p.length c)) →
      ((.slice ao p.length c : Value) = .slice (some ⟨g1, 0, none⟩) p.length cap1 ∨ (g1 = (W.alloc (oneObj x)).heap.size ∧ (W.alloc (oneObj x)).grownBy w1 none)) →
      Own w2 M (.slice (some ⟨g1, 0, none⟩) (p.length + 1) cap1) (p ++ [x]) → Fr M (some g1) w1 w2 → Own w2 M (.slice ao p.length c) p ∧ Fr M (Value.ownBlock (.slice ao p.length c)) w w2 := by
  intro g1 cap1 w1 w2 hg hloc ho2 hf2
  have hal : Fr M (Value.ownBlock (.slice ao p.length c)) W (W.alloc (oneObj x)) := Fr.of_grown (World.grownBy_alloc W _ _)
  have hf1 : Fr M (Value.ownBlock (.slice ao p.length c)) w w1 := (hfr.trans hal).trans (Fr.of_grown hg)
  have hsz := hfr.size
  rcases hloc with e | ⟨e, hg0⟩
  · rw [e] at hf1 ⊢
    exact ⟨ho2.before, hf1.fresh hf2 (.inl rfl)⟩
  · refine ⟨?_, hf1.fresh hf2 (.inr (by rw [e]; simp; omega))⟩
    have h1 : Own w1 M (.slice ao p.length c) p := (hown.fr (row := none) (Fr.of_grown (World.grownBy_alloc W _ none)) (by cases ao <;> simp [Value.ownBlock])).fr (Fr.of_grown hg0) (by cases ao <;> simp [Value.ownBlock])
    refine h1.fr hf2 ?_
    cases hob : Value.ownBlock (.slice ao p.length c) with
    | none => exact .inl rfl
    | some q =>
      right
      have := (World.ownsRow.lt hown q hob).2
      rw [e]
      simp
      omega
end Go.Proofs.YtijjdidljoicfaaDoor
