/- The key of a rest in a map: what it reads as, that different rests have different keys. Conditions: numbers are ints. -/
import Derived.Test.YtakelcboamjndaaShA
import Derived.DeepKeys4
import Derived.DeepKeys3
import Derived.WideKeyPair
import Derived.Maps.Views
import Derived.Maps.OwnOps
namespace Go.Proofs.Ytakelcboamjndaa
open Go.RowKit Go.Maps Go.WideMaps
set_option linter.unusedVariables false

def kL (l b : Int) : Lit := .string (keyBytes [.int .i64 l, .int .i64 b])
theorem laid_out : laidOutB Try.prog = true := by kernel_rfl
theorem rest_row : (44 : TypeId) < Try.prog.types.size := of_decide_eq_true (by kernel_rfl)
theorem rest_wide : (match Try.prog.underlying 44 with | some (.array _ _) | some (.struct _) => true | _ => false) = true := by rw [Try.underlying44]
theorem rest_law : KeyLaw Try.prog 44 := deep_law_laid laid_out (m := 2) (by omega) rest_row (by kernel_rfl) rest_wide
theorem rest_keyed : Keyed Try.prog 44 := Keyed.of_law rest_law
theorem rest_kt : Try.prog.keyType 44 = true := by kernel_rfl
theorem rest_cells : Try.prog.cellsOf 44 = 2 := by kernel_rfl
theorem int_cells : Try.prog.cellsOf 3 = 1 := by kernel_rfl
theorem rest_size : Try.prog.types.size = (Try.prog.types.size - 1) + 1 := by kernel_rfl
theorem rest_key {l b : Int} (wl : (Lit.int .i64 l).wf = true) (wb : (Lit.int .i64 b).wf = true) : keyOf Try.prog 44 (rv l b) = some (kL l b) := by
  unfold keyOf
  simp only [Try.underlying44]
  rw [if_pos (by simp [rest_kt, Value.formed, Try.underlying44, rest_cells])]
  obtain ⟨m, hm⟩ : ∃ m, Try.prog.types.size = m + 1 := ⟨_, rest_size⟩
  rw [hm]
  unfold Program.keyLits
  simp only [Try.underlying44, Value.cells]
  rw [if_pos (by rw [rest_cells]; exact ⟨rfl, by kernel_rfl⟩)]
  simp only [List.mapM_cons, List.mapM_nil, int_cells, List.take, List.drop]
  unfold Program.keyLits
  simp only [Try.underlying3]
  rw [if_pos ⟨trivial, wl⟩, if_pos ⟨trivial, wb⟩]
  rfl
theorem kL_inj {l b l' b' : Int} (wl : (Lit.int .i64 l).wf = true) (wb : (Lit.int .i64 b).wf = true) (wl' : (Lit.int .i64 l').wf = true) (wb' : (Lit.int .i64 b').wf = true) (h : kL l b = kL l' b') : l = l' ∧ b = b' := by
  have h1 := rest_key wl wb
  have h2 := rest_key wl' wb'
  rw [h] at h1
  have := keyOf_inj_deep (m := 2) (by kernel_rfl) rest_wide h1 h2
  simpa using this
end Go.Proofs.Ytakelcboamjndaa
