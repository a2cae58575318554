/- Contract: copyOf. Conditions: the slice reads as a list of at most 2^20 numbers. (The same theorem stands in Nxt1: never import both.) -/
import Derived.Test.YteimfdpkodcfbaaBs1
import Derived.Laws.CopyOwn
namespace Go.Proofs.Yteimfdpkodcfbaa
open Go.RowKit
set_option linter.unusedVariables false

theorem heap_new (w : World) (o : Obj) : (w.alloc o).heap[w.heap.size]? = some o := by
  show (w.heap.push o)[w.heap.size]? = some o
  simp
theorem int_one {xs : List Int} : ∀ v ∈ xs.map (Value.int .i64), v.oneCell' = true := by
  intro v hv
  obtain ⟨x, _, rfl⟩ := List.mem_map.1 hv
  rfl
theorem copy_own {w : World} {g : Nat} {xs : List Int} (hl : xs.length ≤ 1048576) (h : w.rowIs g 3 xs.length (fun i => .int .i64 (xs.getD i 0))) : Own w g (.slice (some ⟨g, 0, none⟩) xs.length xs.length) xs :=
  Own.of_rowIs h rfl (by unfold maxLen; omega)
end Go.Proofs.Yteimfdpkodcfbaa
