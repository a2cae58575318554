/-
  No cell of these rows narrows 'for every input' (looked for: loops, veiled, ifaces, maps, wideKeys, modest, calm, conditions, laid).
  DERIVED. THE GIVEN ROWS OF THIS SEAT. 7 by the template 'for every input the law returns true; each argument reads behind the call as it read before'; 0 by the template 'total and deterministic' (their statements: YteejdagnlepegabTotals.lean).
  GIVEN WITH THE SEED: the statements are not yours to turn. If you find one false, say at which input.
  Laid BY PROGRAM, IN A SANDBOX (cutbox-rows.mjs): the forced cells as the released guide's own fill.sh prints them over the translation 0ea525f72cdafe10… (all of the seat's roots in one cut). By AI agents, Wed Nov 11 2026. No macro, syntax, notation, axiom, sorry.
-/
import Derived.Test.YteejdagnlepegabChecked
import GoSem.Claim
import GoSem.ClaimJoined
import GoSem.ClaimMapViews
import Derived.JoinedTies
import Derived.KernelRfl
namespace Go.Proofs.Yteejdagnlepegab
/- THE CELL 'sum', in the pinned program and in every row, IS THE sha256 OF THE DUMP (.gsa) THAT YteejdagnlepegabProg.lean LOADS. Nothing in Lean hashes anything: it is a label: what it is worth is what the hold of that sum in a sandbox is worth. -/
noncomputable def Try.pinned : Pinned := { name := "yteejdagnlepegab", sum := "0ea525f72cdafe105b1dc6841ed99a04713c62a5b422056396d2d20e0728c8dd", checked := Try.checked }
namespace Rows
def none {H : Type} : Left H := { results := [], args := [] }

/-- 'laws.FnExactAllCombinations': WHATEVER THE INPUT: true; the input reads as it did. -/
def fnExactAllCombinationsSpec : ChangeSpec := { name := "fnExactAllCombinations", fn := fun _ => fun
  | [d1, d2] => { results := [.lit (.bool true)], args := [d1, d2] }
  | _ => none }
def fnExactAllCombinationsRow : OpenClaim := { program := "yteejdagnlepegab", sum := "0ea525f72cdafe105b1dc6841ed99a04713c62a5b422056396d2d20e0728c8dd", func := "loop.example/g01104/laws.FnExactAllCombinations", spec := "fnExactAllCombinations", unfollowed := true, recurses := true, apart := false }
def FnExactAllCombinationsSaid : Prop := fnExactAllCombinationsRow.holds Try.pinned (OpenSpec.ofChange fnExactAllCombinationsSpec)

/-- ITS FALSE NEIGHBOUR: 'it returns false'. Refute it at one input. -/
def fnExactAllCombinationsWrong : ChangeSpec := { name := "fnExactAllCombinations", fn := fun _ => fun
  | [d1, d2] => { results := [.lit (.bool false)], args := [d1, d2] }
  | _ => none }
def FnExactAllCombinationsWrongFalsely : Prop := fnExactAllCombinationsRow.holds Try.pinned (OpenSpec.ofChange fnExactAllCombinationsWrong)

/-- 'laws.FnExactNextPermutation': WHATEVER THE INPUT: true; the input reads as it did. -/
def fnExactNextPermutationSpec : ChangeSpec := { name := "fnExactNextPermutation", fn := fun _ => fun
  | [d] => { results := [.lit (.bool true)], args := [d] }
  | _ => none }
def fnExactNextPermutationRow : OpenClaim := { program := "yteejdagnlepegab", sum := "0ea525f72cdafe105b1dc6841ed99a04713c62a5b422056396d2d20e0728c8dd", func := "loop.example/g01104/laws.FnExactNextPermutation", spec := "fnExactNextPermutation", unfollowed := true, recurses := true, apart := false }
def FnExactNextPermutationSaid : Prop := fnExactNextPermutationRow.holds Try.pinned (OpenSpec.ofChange fnExactNextPermutationSpec)

/-- ITS FALSE NEIGHBOUR: 'it returns false'. Refute it at one input. -/
def fnExactNextPermutationWrong : ChangeSpec := { name := "fnExactNextPermutation", fn := fun _ => fun
  | [d] => { results := [.lit (.bool false)], args := [d] }
  | _ => none }
def FnExactNextPermutationWrongFalsely : Prop := fnExactNextPermutationRow.holds Try.pinned (OpenSpec.ofChange fnExactNextPermutationWrong)

/-- 'laws.FnExactAllPermutations': WHATEVER THE INPUT: true; the input reads as it did. -/
def fnExactAllPermutationsSpec : ChangeSpec := { name := "fnExactAllPermutations", fn := fun _ => fun
  | [d] => { results := [.lit (.bool true)], args := [d] }
  | _ => none }
def fnExactAllPermutationsRow : OpenClaim := { program := "yteejdagnlepegab", sum := "0ea525f72cdafe105b1dc6841ed99a04713c62a5b422056396d2d20e0728c8dd", func := "loop.example/g01104/laws.FnExactAllPermutations", spec := "fnExactAllPermutations", unfollowed := true, recurses := true, apart := false }
def FnExactAllPermutationsSaid : Prop := fnExactAllPermutationsRow.holds Try.pinned (OpenSpec.ofChange fnExactAllPermutationsSpec)

/-- ITS FALSE NEIGHBOUR: 'it returns false'. Refute it at one input. -/
def fnExactAllPermutationsWrong : ChangeSpec := { name := "fnExactAllPermutations", fn := fun _ => fun
  | [d] => { results := [.lit (.bool false)], args := [d] }
  | _ => none }
def FnExactAllPermutationsWrongFalsely : Prop := fnExactAllPermutationsRow.holds Try.pinned (OpenSpec.ofChange fnExactAllPermutationsWrong)

/-- 'laws.FnExactMixedAt': WHATEVER THE INPUT: true; the input reads as it did. -/
def fnExactMixedAtSpec : ChangeSpec := { name := "fnExactMixedAt", fn := fun _ => fun
  | [d1, d2] => { results := [.lit (.bool true)], args := [d1, d2] }
  | _ => none }
def fnExactMixedAtRow : OpenClaim := { program := "yteejdagnlepegab", sum := "0ea525f72cdafe105b1dc6841ed99a04713c62a5b422056396d2d20e0728c8dd", func := "loop.example/g01104/laws.FnExactMixedAt", spec := "fnExactMixedAt", recurses := true, apart := false }
def FnExactMixedAtSaid : Prop := fnExactMixedAtRow.holds Try.pinned (OpenSpec.ofChange fnExactMixedAtSpec)

/-- ITS FALSE NEIGHBOUR: 'it returns false'. Refute it at one input. -/
def fnExactMixedAtWrong : ChangeSpec := { name := "fnExactMixedAt", fn := fun _ => fun
  | [d1, d2] => { results := [.lit (.bool false)], args := [d1, d2] }
  | _ => none }
def FnExactMixedAtWrongFalsely : Prop := fnExactMixedAtRow.holds Try.pinned (OpenSpec.ofChange fnExactMixedAtWrong)

/-- 'laws.FnExactMixedRank': WHATEVER THE INPUT: true; the input reads as it did. -/
def fnExactMixedRankSpec : ChangeSpec := { name := "fnExactMixedRank", fn := fun _ => fun
  | [d1, d2] => { results := [.lit (.bool true)], args := [d1, d2] }
  | _ => none }
def fnExactMixedRankRow : OpenClaim := { program := "yteejdagnlepegab", sum := "0ea525f72cdafe105b1dc6841ed99a04713c62a5b422056396d2d20e0728c8dd", func := "loop.example/g01104/laws.FnExactMixedRank", spec := "fnExactMixedRank", recurses := true, apart := false }
def FnExactMixedRankSaid : Prop := fnExactMixedRankRow.holds Try.pinned (OpenSpec.ofChange fnExactMixedRankSpec)

/-- ITS FALSE NEIGHBOUR: 'it returns false'. Refute it at one input. -/
def fnExactMixedRankWrong : ChangeSpec := { name := "fnExactMixedRank", fn := fun _ => fun
  | [d1, d2] => { results := [.lit (.bool false)], args := [d1, d2] }
  | _ => none }
def FnExactMixedRankWrongFalsely : Prop := fnExactMixedRankRow.holds Try.pinned (OpenSpec.ofChange fnExactMixedRankWrong)

/-- 'laws.FnExactNextMixed': WHATEVER THE INPUT: true; the input reads as it did. -/
def fnExactNextMixedSpec : ChangeSpec := { name := "fnExactNextMixed", fn := fun _ => fun
  | [d1, d2] => { results := [.lit (.bool true)], args := [d1, d2] }
  | _ => none }
def fnExactNextMixedRow : OpenClaim := { program := "yteejdagnlepegab", sum := "0ea525f72cdafe105b1dc6841ed99a04713c62a5b422056396d2d20e0728c8dd", func := "loop.example/g01104/laws.FnExactNextMixed", spec := "fnExactNextMixed", recurses := true, apart := false }
def FnExactNextMixedSaid : Prop := fnExactNextMixedRow.holds Try.pinned (OpenSpec.ofChange fnExactNextMixedSpec)

/-- ITS FALSE NEIGHBOUR: 'it returns false'. Refute it at one input. -/
def fnExactNextMixedWrong : ChangeSpec := { name := "fnExactNextMixed", fn := fun _ => fun
  | [d1, d2] => { results := [.lit (.bool false)], args := [d1, d2] }
  | _ => none }
def FnExactNextMixedWrongFalsely : Prop := fnExactNextMixedRow.holds Try.pinned (OpenSpec.ofChange fnExactNextMixedWrong)

/-- 'laws.FnExactIsMixedList': WHATEVER THE INPUT: true; the input reads as it did. -/
def fnExactIsMixedListSpec : ChangeSpec := { name := "fnExactIsMixedList", fn := fun _ => fun
  | [d1, d2] => { results := [.lit (.bool true)], args := [d1, d2] }
  | _ => none }
def fnExactIsMixedListRow : OpenClaim := { program := "yteejdagnlepegab", sum := "0ea525f72cdafe105b1dc6841ed99a04713c62a5b422056396d2d20e0728c8dd", func := "loop.example/g01104/laws.FnExactIsMixedList", spec := "fnExactIsMixedList", apart := false }
def FnExactIsMixedListSaid : Prop := fnExactIsMixedListRow.holds Try.pinned (OpenSpec.ofChange fnExactIsMixedListSpec)

/-- ITS FALSE NEIGHBOUR: 'it returns false'. Refute it at one input. -/
def fnExactIsMixedListWrong : ChangeSpec := { name := "fnExactIsMixedList", fn := fun _ => fun
  | [d1, d2] => { results := [.lit (.bool false)], args := [d1, d2] }
  | _ => none }
def FnExactIsMixedListWrongFalsely : Prop := fnExactIsMixedListRow.holds Try.pinned (OpenSpec.ofChange fnExactIsMixedListWrong)

/- THE SECOND FORM. 'bulk': how many values and letters a reading holds, each counted each time it is reached (what is shared counts as often as it is met; a slice's spare places count too). A statement '..UptoSaid' is the law's where the arguments, and the package variables that the reading takes, are together of bulk at most 1048576: NARROWER than '..Said'. Prove '..Said' where nothing that the law and all that it calls make is longer than what came in: it says more and counts as full. Else prove '..UptoSaid'. A law counts once. -/
mutual
def uptoBulk {H : Type} : DataW H → Nat
  | .lit (.string bytes) => bytes.length + 1
  | .lit _ => 1
  | .nil => 1
  | .ptr d => uptoBulk d + 1
  | .slice elems spare => uptoBulkAll elems + uptoBulkAll spare + 1
  | .agg parts => uptoBulkAll parts + 1
  | .iface _ d => uptoBulk d + 1
  | .map entries => uptoBulkEntries entries + 1
  | .held _ => 1
def uptoBulkAll {H : Type} : List (DataW H) → Nat
  | [] => 0
  | d :: r => uptoBulk d + uptoBulkAll r
def uptoBulkEntries {H : Type} : List (Lit × DataW H) → Nat
  | [] => 0
  | x :: r => uptoBulkEntry x + uptoBulkEntries r
def uptoBulkEntry {H : Type} : Lit × DataW H → Nat
  | (.string bytes, d) => bytes.length + uptoBulk d + 1
  | (_, d) => uptoBulk d + 1
 end
def uptoSmall : (H : Type) → List (DataW H) → Bool := fun _ ds => decide (uptoBulkAll ds ≤ 1048576)
def OpenSpec.upto (s : _root_.Go.ChangeSpec) : _root_.Go.OpenSpec := { _root_.Go.OpenSpec.ofChange s with cond := some uptoSmall }

/-- 'laws.FnExactAllCombinations', WHERE WHAT IT READS IS OF BULK AT MOST 1048576: true; the input reads as it did. -/
def fnExactAllCombinationsUptoRow : OpenClaim := { program := "yteejdagnlepegab", sum := "0ea525f72cdafe105b1dc6841ed99a04713c62a5b422056396d2d20e0728c8dd", func := "loop.example/g01104/laws.FnExactAllCombinations", spec := "fnExactAllCombinations", unfollowed := true, recurses := true, apart := false, narrowed := true }
def FnExactAllCombinationsUptoSaid : Prop := fnExactAllCombinationsUptoRow.holds Try.pinned (OpenSpec.upto fnExactAllCombinationsSpec)

/-- 'laws.FnExactNextPermutation', WHERE WHAT IT READS IS OF BULK AT MOST 1048576: true; the input reads as it did. -/
def fnExactNextPermutationUptoRow : OpenClaim := { program := "yteejdagnlepegab", sum := "0ea525f72cdafe105b1dc6841ed99a04713c62a5b422056396d2d20e0728c8dd", func := "loop.example/g01104/laws.FnExactNextPermutation", spec := "fnExactNextPermutation", unfollowed := true, recurses := true, apart := false, narrowed := true }
def FnExactNextPermutationUptoSaid : Prop := fnExactNextPermutationUptoRow.holds Try.pinned (OpenSpec.upto fnExactNextPermutationSpec)

/-- 'laws.FnExactAllPermutations', WHERE WHAT IT READS IS OF BULK AT MOST 1048576: true; the input reads as it did. -/
def fnExactAllPermutationsUptoRow : OpenClaim := { program := "yteejdagnlepegab", sum := "0ea525f72cdafe105b1dc6841ed99a04713c62a5b422056396d2d20e0728c8dd", func := "loop.example/g01104/laws.FnExactAllPermutations", spec := "fnExactAllPermutations", unfollowed := true, recurses := true, apart := false, narrowed := true }
def FnExactAllPermutationsUptoSaid : Prop := fnExactAllPermutationsUptoRow.holds Try.pinned (OpenSpec.upto fnExactAllPermutationsSpec)

/-- 'laws.FnExactMixedAt', WHERE WHAT IT READS IS OF BULK AT MOST 1048576: true; the input reads as it did. -/
def fnExactMixedAtUptoRow : OpenClaim := { program := "yteejdagnlepegab", sum := "0ea525f72cdafe105b1dc6841ed99a04713c62a5b422056396d2d20e0728c8dd", func := "loop.example/g01104/laws.FnExactMixedAt", spec := "fnExactMixedAt", recurses := true, apart := false, narrowed := true }
def FnExactMixedAtUptoSaid : Prop := fnExactMixedAtUptoRow.holds Try.pinned (OpenSpec.upto fnExactMixedAtSpec)

/-- 'laws.FnExactMixedRank', WHERE WHAT IT READS IS OF BULK AT MOST 1048576: true; the input reads as it did. -/
def fnExactMixedRankUptoRow : OpenClaim := { program := "yteejdagnlepegab", sum := "0ea525f72cdafe105b1dc6841ed99a04713c62a5b422056396d2d20e0728c8dd", func := "loop.example/g01104/laws.FnExactMixedRank", spec := "fnExactMixedRank", recurses := true, apart := false, narrowed := true }
def FnExactMixedRankUptoSaid : Prop := fnExactMixedRankUptoRow.holds Try.pinned (OpenSpec.upto fnExactMixedRankSpec)

/-- 'laws.FnExactNextMixed', WHERE WHAT IT READS IS OF BULK AT MOST 1048576: true; the input reads as it did. -/
def fnExactNextMixedUptoRow : OpenClaim := { program := "yteejdagnlepegab", sum := "0ea525f72cdafe105b1dc6841ed99a04713c62a5b422056396d2d20e0728c8dd", func := "loop.example/g01104/laws.FnExactNextMixed", spec := "fnExactNextMixed", recurses := true, apart := false, narrowed := true }
def FnExactNextMixedUptoSaid : Prop := fnExactNextMixedUptoRow.holds Try.pinned (OpenSpec.upto fnExactNextMixedSpec)

/-- 'laws.FnExactIsMixedList', WHERE WHAT IT READS IS OF BULK AT MOST 1048576: true; the input reads as it did. -/
def fnExactIsMixedListUptoRow : OpenClaim := { program := "yteejdagnlepegab", sum := "0ea525f72cdafe105b1dc6841ed99a04713c62a5b422056396d2d20e0728c8dd", func := "loop.example/g01104/laws.FnExactIsMixedList", spec := "fnExactIsMixedList", apart := false, narrowed := true }
def FnExactIsMixedListUptoSaid : Prop := fnExactIsMixedListUptoRow.holds Try.pinned (OpenSpec.upto fnExactIsMixedListSpec)

end Rows
end Go.Proofs.Yteejdagnlepegab
