/- Contract: ended at ints. Conditions: the slice is owned. -/
import Derived.Test.YteimfdpkodcfbaaRow
import Derived.Test.YteimfdpkodcfbaaOwnE
namespace Go.Proofs.Yteimfdpkodcfbaa
open Go.RowKit
set_option linter.unusedVariables false

theorem ended_any (B : Nat) (v : Value) (xs : List Int) (w : World) (h : Own w B v xs) :
    Calls Try.prog 158 #[v] w fun e w' => ∃ u, e = .returned u ∧ OwnE w B u xs ∧ u.ownBlock = v.ownBlock ∧ w = w' := by
  rcases h.form with ⟨rfl, rfl⟩ | ⟨g, cap, rfl, hb, hlt, h1, h2, hc, _⟩
  · go_enter Try.func158, Try.ntmps158
    go_wp2_with fail
    go_ret
    exact ⟨_, rfl, h.e, rfl, rfl⟩
  · have HO := hid (show OwnE w B (.slice (some ⟨g, 0, none⟩) xs.length xs.length) xs by
      rcases h.e with ⟨e, _⟩ | ⟨g', cap', cur, e, hg, hgg, h3, h4, h5, h6⟩
      · simp at e
      · simp only [Value.slice.injEq, Option.some.injEq, Addr.mk.injEq, and_true] at e
        obtain ⟨rfl, _, rfl⟩ := e
        exact .inr ⟨g, xs.length, cur, rfl, hg, hgg, Nat.le_refl _, by omega, by omega, h6⟩)
    unfold maxLen at h2
    have q1 : (0 : Int) ≤ (xs.length : Int) := by omega
    have q2 : (xs.length : Int) ≤ (cap : Int) := by omega
    clear h hc
    go_enter Try.func158, Try.ntmps158
    go_wp2_with fail
    go_ret
    exact ⟨_, rfl, HO.out, rfl, rfl⟩
end Go.Proofs.Yteimfdpkodcfbaa
