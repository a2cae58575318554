/- Contract: apart. Conditions: the difference is small. -/
import Derived.Test.YtkphbelgamfmnaaComb1
namespace Go.Proofs.Ytkphbelgamfmnaa
open Go.RowKit
set_option linter.unusedVariables false

def apV (a b : Int) : Int := max (a - b) (b - a)
theorem apV_self (a : Int) : apV a a = 0 := by unfold apV; rw [Int.sub_self]; rfl
theorem apart_any (a b : Int) (w : World) (h1 : -100000 ≤ a - b) (h2 : a - b ≤ 100000) :
    Calls Try.prog 72 #[.int .i64 a, .int .i64 b] w fun e w' => e = .returned (.int .i64 (apV a b)) ∧ w = w' := by
  have hww : IntKind.i64.wrap (a - b) = a - b := IntWalk.i64_in _ (by omega)
  have hww' : IntKind.i64.wrap (b - a) = b - a := IntWalk.i64_in _ (by omega)
  have e1 : a - b < b - a → apV a b = b - a := fun h => by unfold apV; omega
  have e2 : ¬ a - b < b - a → apV a b = a - b := fun h => by unfold apV; omega
  have H1 := hid e1
  have H2 := hid e2
  clear e1 e2
  go_enter Try.func72, Try.ntmps72
  go_wp2
  · go_ret
    exact ⟨ret_int (H1.out (by assumption)).symm, rfl⟩
  · go_ret
    exact ⟨ret_int (H2.out (by assumption)).symm, rfl⟩
end Go.Proofs.Ytkphbelgamfmnaa
