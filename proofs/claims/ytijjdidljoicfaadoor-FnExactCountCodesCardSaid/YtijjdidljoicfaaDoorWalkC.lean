/- Contract: walk with the visitor of CountCodes. Conditions: the words are below 1024; what the visitor keeps is kept by appends to other rows. -/
import Derived.Test.YtijjdidljoicfaaDoorWkC
import Derived.Test.YtijjdidljoicfaaDoorDif1
namespace Go.Proofs.YtijjdidljoicfaaDoor
open Go.RowKit
set_option linter.unusedVariables false

theorem small_ok {p : List Int} : small p ↔ ∀ i, i < p.length → okC (p.getD i 0) := by
  constructor
  · intro h i hi
    obtain ⟨y, e, hy⟩ := h i hi
    rw [e]
    exact ⟨by omega, by omega⟩
  · intro h i hi
    have := h i hi
    exact ⟨(p.getD i 0).toNat, by have := this.1; omega, by have h1 := this.1; have h2 := this.2; omega⟩
theorem walk_CountCodes {σ : Type} (ws : List Int) (vis : List Int → σ → Bool × σ) (J : World → σ → Prop) (M gw ow cw : Nat) (A1 A2 : Addr)
    (hws : ∀ i (hi : i < ws.length), 0 ≤ ws[i] ∧ ws[i] < 1024) (hpos : 0 < ws.length) (hlen : ws.length ≤ 1024)
    (HJ : ∀ w w' row s, J w s → w.grownBy w' row → (∀ k, row = some k → M ≤ k) → J w' s)
    (HW : ∀ w s, J w s → TZ w ∧ Sits w (.slice (some ⟨gw, ow, none⟩) ws.length cw) ws)
    (HV : ∀ w s g cap p, J w s → Own w M (.slice (some ⟨g, 0, none⟩) p.length cap) p → p.length = ws.length → small p → M ≤ w.heap.size →
      Calls Tryd.prog 28 #[.slice (some ⟨g, 0, none⟩) p.length cap, .pointer (some A1), .pointer (some A2)] w fun e w' => e = .returned (.bool (vis p s).1) ∧ J w' (vis p s).2 ∧ Fr M none w w')
    (m : Nat) (p : List Int) (v : Value) (s : σ) (w : World) (hpm : p.length + m = ws.length) (hown : Own w M v p) (hj : J w s) (hsm : small p) (hM : M ≤ w.heap.size) :
      Calls Tryd.prog 23 #[.slice (some ⟨gw, ow, none⟩) ws.length cw, v, .func (.func 24) #[] #[], .func (.func 28) #[] #[.pointer (some A1), .pointer (some A2)]] w fun e w' =>
        e = .returned (.bool (wlk ws vis m p s).1) ∧ J w' (wlk ws vis m p s).2 ∧ Own w' M v p ∧ Fr M v.ownBlock w w' := by
  have h := walk_WkC ws vis nrC okC J M gw ow cw A1 A2 hws hpos hlen (fun _ => True) (fun _ _ _ _ _ => trivial) (fun a b c d _ => HJ a b c d) (fun a b h => (HW a b h).2)
    (fun w s y x hj hy hx => (differ_ok y x w hy hx (HW _ _ hj).1).mono (fun e w' h => ⟨h.1, h.2 ▸ hj, h.2 ▸ Below.refl _ _⟩))
    (fun w s g cap p _ hj ho hp hs hM => HV w s g cap p hj ho hp (small_ok.2 hs) hM) m p v s w trivial hpm hown hj (small_ok.1 hsm) hM
  rw [wk_wlk] at h
  exact h
end Go.Proofs.YtijjdidljoicfaaDoor
