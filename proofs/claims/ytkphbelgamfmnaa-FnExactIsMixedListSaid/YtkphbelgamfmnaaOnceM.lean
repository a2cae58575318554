/- Laws on a map[int]bool that the call makes: the look-up; the map of the numbers that were met. No conditions. -/
import Derived.Test.YtkphbelgamfmnaaMixL
import Derived.Maps.OwnOps
import Derived.Maps.Views
namespace Go.Proofs.Ytkphbelgamfmnaa
open Go.RowKit Go.Maps
set_option linter.unusedVariables false

theorem run_makeMap_hint {P : Program} (t k e : TypeId) (hu : P.underlying t = some (.map k e)) (n : Int) (w : World) : (Instr.makeMap t (some (.int .i64 n))).run P w = .ok (.map (some w.heap.size)) (w.alloc (.map #[] 0)) := by
  simp [Instr.makeMap, run_underlying hu, asInt, asIntOf, Result.andThen]
theorem plainElem_bool_inv {H : Type} {P : Program} {e : TypeId} (he : P.underlying e = some .bool) {v : Value} {z : DataW H × List MemPlace} (h : plainElem P e v = some z) : ∃ a, v = .bool a ∧ z = (.lit (.bool a), []) := by
  unfold plainElem at h
  rw [he] at h
  cases v <;> simp at h
  exact ⟨_, rfl, h.symm⟩
/-- A look-up in a map of bools, at the operation. -/
theorem lookup_own_bool {H : Type} {P : Program} (w : World) {ops : Array Oper} {rest : List Oper} {o : Oper} {a : Act} {Q : Exit → Act → World → Prop}
    (hg : o.guard = none) (m x : Operand) (t : TypeId) (hop : o.op = Op.lookup t m x false)
    (k e : TypeId) (K : Keyed P k) (ht : P.underlying t = some (.map k e)) (he : P.underlying e = some .bool) (hz : (zeroValue e).run P w = .ok (.bool false) w) (b n : Nat) (D : DataW H)
    (hm : a.eval m = .map (some b)) (hown : w.ownsMap P k (plainElem P e) b n D) (key : Value) (kl : Lit) (hx : a.eval x = key) (hkey : keyOf P k key = some kl) (c : Bool)
    (hc : D.atKey kl (.lit (.bool false)) = .lit (.bool c)) (hK : wpList P ops Q rest (a.put o.dst (.bool c)) w) :
    wpList P ops Q (o :: rest) a w := by
  refine wpList_plain hg fun K' hK' => ?_
  obtain ⟨v, ps, hrun, hv⟩ := hown.lookup K ht hz (plainElem_bool he false) hkey
  obtain ⟨c', rfl, hc'⟩ := plainElem_bool_inv he hv
  simp only [Prod.mk.injEq] at hc'
  rw [hc] at hc'
  have e1 : c = c' := by simpa using hc'.1
  subst e1
  unfold Oper.wp
  simp [execOp, hop, hm, hx, hrun, Result.andThen]
  exact hK' _ _ hK
/-- the map of the first k numbers -/
def metM (f : Nat → Int) (k : Nat) : DataW Unit := setOf (.lit (.bool true)) ((List.range k).map fun j => Lit.int .i64 (f j))
theorem metM_zero (f : Nat → Int) : metM f 0 = .map [] := rfl
theorem metM_succ (f : Nat → Int) (k : Nat) : metM f (k + 1) = (metM f k).put (.int .i64 (f k)) (.lit (.bool true)) := by
  unfold metM
  rw [List.range_succ, List.map_append]
  exact setOf_snoc _ _ _
theorem metM_isMap (f : Nat → Int) (k : Nat) : IsMap (metM f k) := by
  refine (tidy_setOf _ _ (fun x hx => ?_)).isMap
  obtain ⟨j, _, rfl⟩ := List.mem_map.1 hx
  trivial
theorem metM_at (f : Nat → Int) (k : Nat) (r : Int) : (metM f k).atKey (.int .i64 r) (.lit (.bool false)) = .lit (.bool (metB f k r)) := by
  induction k with
  | zero => rfl
  | succ k ih =>
    rw [metM_succ, metB_succ]
    by_cases e : f k = r
    · subst e
      rw [atKey_put_same (k := Lit.int .i64 (f k)) (metM_isMap f k) trivial]
      simp
    · rw [atKey_put_other (by simp; omega), ih]
      have : (f k == r) = false := by simpa using e
      rw [this, Bool.or_false]
end Go.Proofs.Ytkphbelgamfmnaa
