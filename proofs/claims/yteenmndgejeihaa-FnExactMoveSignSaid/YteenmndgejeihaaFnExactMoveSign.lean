/- Proves the given statement Rows.FnExactMoveSignSaid: for every input the law FnExactMoveSign returns true and leaves its arguments as they were. Conditions: none. -/
import Derived.Test.YteenmndgejeihaaRows
import Derived.Test.YteenmndgejeihaaWMoveSg
import Derived.Test.YteenmndgejeihaaMovesIn
import Derived.Test.YteenmndgejeihaaFacts
import Derived.WalkKit
import Derived.ProofKit
import Derived.OpenShut
import Derived.ShutString
import Derived.ChangeOld
import Derived.Below
namespace Go.Proofs.Yteenmndgejeihaa.fnExactMoveSign
open Go.ChangeShapes Go.WideShapes Go.ChangeAt Go.RowKit
open Go.ChangeMaps (open_string shut_string)
set_option linter.unusedVariables false

theorem own : ownKnob Try.prog.godebug = none := by kernel_rfl
theorem laidOut : laidOutB Try.prog = true := by kernel_rfl

theorem walk (k0 i0 j0 : Int) (w : World) (w0 : (Lit.int .i64 k0).wf = true ∧ (Lit.int .i64 i0).wf = true ∧ (Lit.int .i64 j0).wf = true) :
    Calls Try.prog 8 #[mvA k0 i0 j0] w fun e w' => e = .returned (.bool true) ∧ Below w.heap.size w w' := by
  exact walk_FnExactMoveSign k0 i0 j0 w w0

set_option maxRecDepth 100000 in
theorem lifted (os : Os) (started : os.Started) (H : Type) (enc : TypeId × Value → H) :
    ReturnsInHanded {} Try.checked os 8 .any (Rows.fnExactMoveSignSpec.pre6 enc Try.prog Try.f8 Rows.fnExactMoveSignRow.domain false) (Rows.fnExactMoveSignSpec.post enc Try.prog Try.f8 false true false false) := by
  refine returnsInHanded_of_change (C := Try.checked) own started (by kernel_rfl) Try.func8
    (ChangeSpec.witness6 (enc := enc) (C := Try.checked) false ⟨#[], #[mvA 0 0 0], []⟩ 8 (by kernel_rfl) (by kernel_rfl) (by kernel_rfl) (by kernel_rfl)) ?_
  intro W base args ds gs before hval0 hW hcnd _
  have hval : ∀ (j : Nat) t v, Try.f8.params[j]? = some t → args[j]? = some v → Value.okWide Try.prog W .any base t v := hval0
  have hW' := hW
  obtain ⟨p, q, hA0, hV, rfl, hfz, hnd⟩ := hW
  have hA : DataW.TrodAll enc Try.prog W 0 (fun _ => true) true Try.f8.params.toList args.toList ds p := hA0
  rw [Try.params8] at hA hval
  obtain ⟨v0, vs0, d0, ds0, p0, q0, hargs, rfl, rfl, h0, r0⟩ := trodAll_cons hA
  obtain ⟨rfl, rfl, rfl⟩ := trodAll_nil r0
  obtain rfl : args = #[v0] := by cases args; simp_all
  obtain ⟨rfl, rfl⟩ := trodVars_none hV
  have kk0 := h0
  have lt0 : ∀ x ∈ p0, x.block < W.heap.size := by obtain ⟨m, hm⟩ := kk0; exact DataW.trod_lt m _ _ _ hm
  obtain ⟨k0, i0, j0, rfl, w0⟩ := move_in Try.underlying35 (by kernel_rfl) (by kernel_rfl) Try.underlying3 Try.underlying3 Try.underlying3 (hval 0 35 v0 rfl rfl) h0
  clear hA0 hval0
  refine (walk k0 i0 j0 W w0).mono fun e W' ⟨he, bel⟩ => ?_
  subst he
  exact ⟨_, rfl, _, _, _, [], _, [], hW', trodAll_mk1 (shut_bool Try.underlying4 _), (trodAll_cons_mk (Below.trod laidOut (by kernel_rfl) (of_decide_eq_true (by kernel_rfl)) kk0 bel lt0) trodAll_mk0), rfl, bel.frame _, fun h => by cases h⟩

theorem facts : joinedFacts Try.prog 8 Try.f8 Rows.fnExactMoveSignSpec Rows.fnExactMoveSignRow = true := by
  unfold joinedFacts
  rw [may_enter, lifts_final, made_how]
  kernel_rfl

theorem over : Rows.fnExactMoveSignRow.holds Try.pinned (OpenSpec.ofChange Rows.fnExactMoveSignSpec) :=
  OpenClaim.holds_of_wide 8 Try.f8 rfl rfl rfl rfl rfl rfl rfl ⟨rfl, rfl, rfl, rfl, rfl⟩ rfl rfl rfl rfl rfl (by kernel_rfl) Try.func8 facts
    (of_decide_eq_true (by kernel_rfl)) (by unfold Func.isWrapper; first | (rw [if_pos (by decide +kernel)]; kernel_rfl) | (rw [if_neg (by decide +kernel)]; exact ⟨rfl, rfl⟩))
    (fun os started H enc _ => lifted os started H enc)

theorem proved : Rows.FnExactMoveSignSaid := over
#print axioms proved
end Go.Proofs.Yteenmndgejeihaa.fnExactMoveSign
