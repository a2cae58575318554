/- Contract: walk with the visitor of PathThrough. Conditions: the words are below 1024; what the visitor keeps is kept by appends to other rows. -/
import Derived.Test.YtijjdidljoicfaaDoorWkP
import Derived.Test.YtijjdidljoicfaaDoorDif1
namespace Go.Proofs.YtijjdidljoicfaaDoor
open Go.RowKit
set_option linter.unusedVariables false

theorem small_ok {p : List Int} : small p ↔ ∀ i, i < p.length → okC (p.getD i 0) := by
  constructor
  · intro h i hi
    obtain ⟨y, e, hy⟩ := h i hi
    rw [e]
    exact ⟨by omega, by omega⟩
  · intro h i hi
    have := h i hi
    exact ⟨(p.getD i 0).toNat, by have := this.1; omega, by have h1 := this.1; have h2 := this.2; omega⟩
theorem wlk_live {σ : Type} {ws : List Int} {vis : List Int → σ → Bool × σ} {live : σ → Prop} (HL : ∀ p s s1, live s → vis p s = (true, s1) → live s1) : ∀ (m : Nat) (p : List Int) (s s1 : σ), live s → wlk ws vis m p s = (true, s1) → live s1 := by
  intro m
  induction m with
  | zero => intro p s s1 h e; exact HL p s s1 h e
  | succ m ih =>
    intro p s s1 h e
    rw [wlk] at e
    have key : ∀ (vs : List Int) (s : σ), live s → wlkL (wlk ws vis m) p vs s = (true, s1) → live s1 := by
      intro vs
      induction vs with
      | nil => intro s h e; simp only [wlkL, Prod.mk.injEq, true_and] at e; rw [← e]; exact h
      | cons x t iht =>
        intro s h e
        rw [wlkL] at e
        split at e
        · exact iht s h e
        · obtain ⟨r, hr⟩ : ∃ r, r = wlk ws vis m (p ++ [x]) s := ⟨_, rfl⟩
          rw [← hr] at e
          obtain ⟨b, s2⟩ := r
          cases b with
          | true => exact iht s2 (ih _ _ _ h hr.symm) (by simpa using e)
          | false => simp at e
    exact key ws s h e
theorem walk_PathThrough {σ : Type} (ws : List Int) (vis : List Int → σ → Bool × σ) (J : World → σ → Prop) (M gw ow cw : Nat) (A1 : Addr)
    (hws : ∀ i (hi : i < ws.length), 0 ≤ ws[i] ∧ ws[i] < 1024) (hpos : 0 < ws.length) (hlen : ws.length ≤ 1024)
    (live : σ → Prop) (HL : ∀ p s s1, live s → vis p s = (true, s1) → live s1)
    (HJ : ∀ w w' row s, live s → J w s → w.grownBy w' row → (∀ k, row = some k → M ≤ k) → J w' s)
    (HW : ∀ w s, J w s → TZ w ∧ Sits w (.slice (some ⟨gw, ow, none⟩) ws.length cw) ws)
    (HV : ∀ w s g cap p, J w s → Own w M (.slice (some ⟨g, 0, none⟩) p.length cap) p → p.length = ws.length → small p → M ≤ w.heap.size →
      Calls Tryd.prog 25 #[.slice (some ⟨g, 0, none⟩) p.length cap, .pointer (some A1)] w fun e w' => e = .returned (.bool (vis p s).1) ∧ J w' (vis p s).2 ∧ Fr M none w w')
    (m : Nat) (p : List Int) (v : Value) (s : σ) (w : World) (hlive : live s) (hpm : p.length + m = ws.length) (hown : Own w M v p) (hj : J w s) (hsm : small p) (hM : M ≤ w.heap.size) :
      Calls Tryd.prog 23 #[.slice (some ⟨gw, ow, none⟩) ws.length cw, v, .func (.func 24) #[] #[], .func (.func 25) #[] #[.pointer (some A1)]] w fun e w' =>
        e = .returned (.bool (wlk ws vis m p s).1) ∧ J w' (wlk ws vis m p s).2 ∧ Own w' M v p ∧ Fr M v.ownBlock w w' := by
  have h := walk_WkP ws vis nrC okC J M gw ow cw A1 hws hpos hlen live HL HJ (fun a b h => (HW a b h).2)
    (fun w s y x hj hy hx => (differ_ok y x w hy hx (HW _ _ hj).1).mono (fun e w' h => ⟨h.1, h.2 ▸ hj, h.2 ▸ Below.refl _ _⟩))
    (fun w s g cap p _ hj ho hp hs hM => HV w s g cap p hj ho hp (small_ok.2 hs) hM) m p v s w hlive hpm hown hj (small_ok.1 hsm) hM
  rw [wk_wlk] at h
  exact h
end Go.Proofs.YtijjdidljoicfaaDoor
