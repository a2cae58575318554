/- Contract: differInOneBit; walk over it is the walk of words. Conditions: words of at most 10 bits; the table of math/bits holds what the program's text lays. -/
import Derived.Test.YtijjdidljoicfaaDoorCBit
import Derived.Test.YtijjdidljoicfaaDoorWalkM
import Derived.Test.YtijjdidljoicfaaDoorWkM
namespace Go.Proofs.YtijjdidljoicfaaDoor
open Go.RowKit
set_option linter.unusedVariables false

def nrC (y x : Int) : Bool := cbB (y.toNat ^^^ x.toNat)
theorem stop_C : stopG nrC = stopB := by
  funext p x
  rfl
theorem wkL_wlkL {σ : Type} (f : List Int → σ → Bool × σ) (p : List Int) : ∀ (xs : List Int) (s : σ), wkL stopB f p xs s = wlkL f p xs s
  | [], s => rfl
  | x :: t, s => by
    rw [wkL, wlkL]
    split
    · exact wkL_wlkL f p t s
    · split
      · exact wkL_wlkL f p t _
      · rfl
theorem wk_wlk {σ : Type} (ws : List Int) (vis : List Int → σ → Bool × σ) : ∀ (m : Nat) (p : List Int) (s : σ), wk (stopG nrC) ws vis m p s = wlk ws vis m p s
  | 0, p, s => rfl
  | m + 1, p, s => by
    have h : wk (stopG nrC) ws vis m = wlk ws vis m := by
      funext p s
      exact wk_wlk ws vis m p s
    rw [wk, wlk, h, stop_C, wkL_wlkL]
def okC (x : Int) : Prop := 0 ≤ x ∧ x < 1024
theorem differ_any (a b : Nat) (w : World) (ha : a < 1024) (hb : b < 1024) (ht : TZ w) : Calls Tryd.prog 24 #[.int .i64 (a : Int), .int .i64 (b : Int)] w fun e w' => e = .returned (.bool (cbB (a ^^^ b))) ∧ w = w' := by
  go_enter Tryd.func24, Tryd.ntmps24
  go_wp2_with (first | (go_at_call 41; refine (changedBit_any a b _ ha hb ht).mono ?_; rintro e w' ⟨rfl, rfl⟩) | fail)
  go_ret
  exact ⟨rfl, rfl⟩
theorem differ_ok (y x : Int) (w : World) (hy : okC y) (hx : okC x) (ht : TZ w) : Calls Tryd.prog 24 #[.int .i64 y, .int .i64 x] w fun e w' => e = .returned (.bool (nrC y x)) ∧ w = w' := by
  obtain ⟨a, rfl⟩ : ∃ a : Nat, y = a := ⟨y.toNat, by have := hy.1; omega⟩
  obtain ⟨b, rfl⟩ : ∃ b : Nat, x = b := ⟨x.toNat, by have := hx.1; omega⟩
  have ha := hy.2
  have hb := hx.2
  refine (differ_any a b w (by omega) (by omega) ht).mono ?_
  rintro e w' ⟨rfl, rfl⟩
  exact ⟨rfl, rfl⟩
end Go.Proofs.YtijjdidljoicfaaDoor
