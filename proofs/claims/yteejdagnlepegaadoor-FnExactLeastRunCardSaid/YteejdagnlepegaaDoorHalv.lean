/- Contracts: gcOdd, math/bits.OnesCount, gcHalves and both HalvesOf functions. Conditions: words of at most 10 bits. -/
import Derived.Test.YteejdagnlepegaaDoorBits
import Derived.Test.YteejdagnlepegaaDoorHalvM
import Derived.Laws.Bits64b
namespace Go.Proofs.YteejdagnlepegaaDoor
open Go.RowKit
set_option linter.unusedVariables false

/-- What OnesCount64 reckons, in the model's own operations. -/
def ocI (x : Int) : Int :=
  let a := IntKind.u64.wrap (bits .and .u64 (x / 2) 6148914691236517205 + bits .and .u64 x 6148914691236517205)
  let b := IntKind.u64.wrap (bits .and .u64 (a / 4) 3689348814741910323 + bits .and .u64 a 3689348814741910323)
  let c := bits .and .u64 (IntKind.u64.wrap (b / 16 + b)) 1085102592571150095
  let d := IntKind.u64.wrap (c + c / 256)
  let e := IntKind.u64.wrap (d + d / 65536)
  let f := IntKind.u64.wrap (e + e / 4294967296)
  bits .and .i64 (wrap64 f) 127
set_option maxRecDepth 100000 in
theorem ocI_pop : ∀ x : Nat, x < 1024 → ocI (x : Int) = (popN x : Int) := by decide +kernel
theorem OnesCount64_any (x : Nat) (w : World) (hx : x < 1024) : Calls Tryd.prog 61 #[.int .u64 (x : Int)] w fun e w' => e = .returned (.int .i64 (popN x)) ∧ w = w' := by
  go_enter Tryd.func61, Tryd.ntmps61
  go_wp2
  go_ret
  exact ⟨ret_int (ocI_pop x hx), rfl⟩
theorem OnesCount_any (x : Nat) (w : World) (hx : x < 1024) : Calls Tryd.prog 58 #[.int .u64 (x : Int)] w fun e w' => e = .returned (.int .i64 (popN x)) ∧ w = w' := by
  go_enter Tryd.func58, Tryd.ntmps58
  go_wp2_with (first | (go_at_call 61; refine (OnesCount64_any x _ hx).mono ?_; rintro e w' ⟨rfl, rfl⟩) | fail)
  go_ret
  exact ⟨rfl, rfl⟩
theorem popTo_le (x k : Nat) : popTo x k ≤ k := by
  induction k with
  | zero => exact Nat.le_refl _
  | succ k ih => rw [popTo]; omega
/-- how many of the first k words have an odd number of bits set -/
def oddOf (xs : List Int) : Nat → Nat
  | 0 => 0
  | k + 1 => oddOf xs k + popN (xs.getD k 0).toNat % 2
theorem oddOf_le (xs : List Int) (k : Nat) : oddOf xs k ≤ k := by
  induction k with
  | zero => exact Nat.le_refl _
  | succ k ih => rw [oddOf]; omega
/-- all are natural numbers below 1024 -/
def small (xs : List Int) : Prop := ∀ i, i < xs.length → ∃ y : Nat, xs.getD i 0 = (y : Int) ∧ y < 1024
theorem wordsB_small {n : Int} {xs : List Int} (h : wordsB n xs = true) : small xs := by
  obtain ⟨h1, h2, h3⟩ := wordsB_iff.1 h
  intro i hi
  obtain ⟨y, e, _, hy⟩ := word_nat h1 (h3 i hi)
  exact ⟨y, e, hy⟩
def hvE (n : Int) (xs : List Int) : Int := if wordsB n xs = true then (xs.length : Int) - oddOf xs xs.length else 0
def hvO (n : Int) (xs : List Int) : Int := if wordsB n xs = true then (oddOf xs xs.length : Int) else 0
theorem hv_yes {n : Int} {xs : List Int} (h : wordsB n xs = true) : hvE n xs = (xs.length : Int) - oddOf xs xs.length ∧ hvO n xs = (oddOf xs xs.length : Int) := by
  unfold hvE hvO; rw [if_pos h, if_pos h]; exact ⟨rfl, rfl⟩
theorem hv_no {n : Int} {xs : List Int} (h : wordsB n xs = false) : hvE n xs = 0 ∧ hvO n xs = 0 := by
  unfold hvE hvO; rw [if_neg (by rw [h]; simp), if_neg (by rw [h]; simp)]; exact ⟨rfl, rfl⟩
theorem ret_nnb {a b a' b' : Int} {c d : Bool} (h : a = b) (h0 : a' = b') (h' : c = d) : Ending.returned (.tuple #[.int .i64 a, .int .i64 a', .bool c]) = .returned (.tuple #[.int .i64 b, .int .i64 b', .bool d]) := by rw [h, h', h0]
end Go.Proofs.YteejdagnlepegaaDoor
