/- The map of the windows that were met, by their ranks: what it holds, what a look-up finds. Conditions: ranks are ints. -/
import Derived.Test.YteimfdpkodcfbaaBs3
import Derived.Maps.OwnOps
import Derived.Maps.OwnSet
import Derived.Maps.Views
namespace Go.Proofs.Yteimfdpkodcfbaa
open Go.RowKit Go.Maps
set_option linter.unusedVariables false

/-- one of the first k ranks is r -/
def metW (T : Nat → Int) (k : Nat) (r : Int) : Bool := (List.range k).any fun i => T i == r
theorem metW_iff {T : Nat → Int} {k : Nat} {r : Int} : metW T k r = true ↔ ∃ i, i < k ∧ T i = r := by
  unfold metW
  rw [List.any_eq_true]
  simp
theorem metW_succ (T : Nat → Int) (k : Nat) (r : Int) : metW T (k + 1) r = (metW T k r || (T k == r)) := by
  unfold metW
  rw [List.range_succ, List.any_append]
  simp
/-- the map behind k windows -/
def metJ (T : Nat → Int) : Nat → DataW Unit
  | 0 => .map []
  | k + 1 => (metJ T k).put (.int .i64 (T k)) (.lit (.int .i64 (k : Int)))
theorem metJ_isMap (T : Nat → Int) : ∀ k, IsMap (metJ T k)
  | 0 => ⟨[], rfl⟩
  | k + 1 => by rw [metJ]; exact (metJ_isMap T k).put _ _
theorem metJ_has (T : Nat → Int) (k : Nat) (r : Int) : Maps.has (metJ T k) (.int .i64 r) = metW T k r := by
  induction k with
  | zero => rfl
  | succ k ih =>
    rw [metJ, metW_succ]
    by_cases e : T k = r
    · subst e
      rw [has_put_same (k := Lit.int .i64 (T k)) (metJ_isMap T k) trivial]
      simp
    · rw [has_put_other (by simp; omega), ih]
      have : (T k == r) = false := by simpa using e
      rw [this, Bool.or_false]
theorem metJ_no {T : Nat → Int} {k : Nat} {r : Int} (h : metW T k r = false) (z : DataW Unit) : (metJ T k).atKey (.int .i64 r) z = z := by
  induction k with
  | zero => rfl
  | succ k ih =>
    rw [metW_succ, Bool.or_eq_false_iff] at h
    rw [metJ, atKey_put_other (by simp at h ⊢; omega), ih h.1]
theorem metJ_at {T : Nat → Int} {k i : Nat} (h : ∀ a b, a < b → b < k → T a ≠ T b) (hi : i < k) (z : DataW Unit) : (metJ T k).atKey (.int .i64 (T i)) z = .lit (.int .i64 (i : Int)) := by
  induction k with
  | zero => omega
  | succ k ih =>
    rw [metJ]
    by_cases e : i = k
    · subst e
      rw [atKey_put_same (k := Lit.int .i64 (T i)) (metJ_isMap T i) trivial]
    · rw [atKey_put_other (by simp; exact h i k (by omega) (by omega)), ih (fun a b ha hb => h a b ha (by omega)) (by omega)]
theorem ownsMap_below9 {H : Type} {P : Program} {k : TypeId} {R : Value → Option (DataW H × List MemPlace)} {w w' : World} {b n : Nat} {D : DataW H} (h : w.ownsMap P k R b n D) (hb : Below w.heap.size w w') : w'.ownsMap P k R b n D := by
  have hlt := h.lt
  obtain ⟨es, clock, hm, r⟩ := h
  exact ⟨es, clock, (hb.block b hlt).trans hm, r⟩
theorem Try.keyInt9 : Keyed Try.prog 3 := int_keyed Try.underlying3
theorem zero_int9 (w : World) : (zeroValue 3).run Try.prog w = .ok (.int .i64 0) w := by kernel_rfl
theorem look9_no {w : World} {b n k : Nat} {T : Nat → Int} {r : Int} (h : w.ownsMap Try.prog 3 (plainElem (H := Unit) Try.prog 3) b n (metJ T k)) (hr : (Lit.int .i64 r).wf = true) (hm : metW T k r = false) :
    (Instr.lookup 78 (.map (some b)) (.int .i64 r) true).run Try.prog w = .ok (.tuple #[.int .i64 0, .bool false]) w := by
  obtain ⟨v, ps, hrun, hv⟩ := h.look_ok Try.keyInt9 Try.underlying78 (zero_int9 w) (plainElem_int Try.underlying3 (by decide)) (keyOf_int_mk (q := .i64) (a := r) Try.underlying3 hr)
  obtain ⟨c, rfl, hc, _⟩ := plainElem_int_inv Try.underlying3 hv
  simp only [Prod.mk.injEq] at hc
  rw [metJ_no hm] at hc
  have e : c = 0 := by simpa using hc.1.symm
  rw [metJ_has, hm, e] at hrun
  exact hrun
theorem look9_yes {w : World} {b n k i : Nat} {T : Nat → Int} {r : Int} (h : w.ownsMap Try.prog 3 (plainElem (H := Unit) Try.prog 3) b n (metJ T k)) (hr : (Lit.int .i64 r).wf = true) (hd : ∀ a b, a < b → b < k → T a ≠ T b) (hi : i < k) (hT : T i = r) :
    (Instr.lookup 78 (.map (some b)) (.int .i64 r) true).run Try.prog w = .ok (.tuple #[.int .i64 (i : Int), .bool true]) w := by
  subst hT
  obtain ⟨v, ps, hrun, hv⟩ := h.look_ok Try.keyInt9 Try.underlying78 (zero_int9 w) (plainElem_int Try.underlying3 (by decide)) (keyOf_int_mk (q := .i64) (a := T i) Try.underlying3 hr)
  obtain ⟨c, rfl, hc, _⟩ := plainElem_int_inv Try.underlying3 hv
  simp only [Prod.mk.injEq] at hc
  rw [metJ_at hd hi] at hc
  have e : c = (i : Int) := by simpa using hc.1.symm
  rw [metJ_has, metW_iff.2 ⟨i, hi, rfl⟩, e] at hrun
  exact hrun
theorem look9_at {w : World} {b n k i : Nat} {T : Nat → Int} {r : Int} (h : w.ownsMap Try.prog 3 (plainElem (H := Unit) Try.prog 3) b n (metJ T k)) (hr : (Lit.int .i64 r).wf = true) (hd : ∀ a b, a < b → b < k → T a ≠ T b) (hi : i < k) (hT : T i = r) :
    (Instr.lookup 78 (.map (some b)) (.int .i64 r) false).run Try.prog w = .ok (.int .i64 (i : Int)) w := by
  subst hT
  obtain ⟨c, hrun, hat, _⟩ := h.lookup_int Try.keyInt9 Try.underlying78 Try.underlying3 (zero_int9 w) (keyOf_int_mk (q := .i64) (a := T i) Try.underlying3 hr)
  rw [metJ_at hd hi] at hat
  have e : c = (i : Int) := by simpa using hat.symm
  rw [e] at hrun
  exact hrun
end Go.Proofs.Yteimfdpkodcfbaa
