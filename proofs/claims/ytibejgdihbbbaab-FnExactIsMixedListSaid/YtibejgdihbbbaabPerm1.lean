/- Contracts: l1Has, raPermutation and both IsPermutation functions. Conditions: the slice reads as a list. -/
import Derived.Test.YtibejgdihbbbaabPermMath
import Derived.Test.YtibejgdihbbbaabComb2
namespace Go.Proofs.Ytibejgdihbbbaab
open Go.RowKit
set_option linter.unusedVariables false

/-- The beginning of a slice. -/
theorem Reads_take {w : World} {b off c : Nat} {xs : List Int} (k : Nat) (hk : k ≤ xs.length) (hc1 : xs.length ≤ c) (hm : c ≤ 9223372036854775807) (hb : b < w.heap.size)
    (hc : ∀ i (hi : i < xs.length), w.cell? ⟨b, off + i, none⟩ = some (.int .i64 xs[i])) : Reads w (.slice (some ⟨b, off, none⟩) k c) (xs.take k) := by
  have hl : (xs.take k).length = k := by simp; omega
  refine ⟨_, c, by rw [hl], by omega, by unfold maxLen; omega, .inr ⟨b, off, rfl, hb, fun i hi => ?_⟩⟩
  rw [hl] at hi
  rw [hc i (by omega)]
  simp [List.getD_eq_getElem?_getD, hi, show i < xs.length by omega]

end Go.Proofs.Ytibejgdihbbbaab
