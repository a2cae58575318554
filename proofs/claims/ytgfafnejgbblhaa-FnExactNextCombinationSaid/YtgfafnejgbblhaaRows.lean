/-
  No cell of these rows narrows 'for every input' (looked for: loops, veiled, ifaces, maps, wideKeys, modest, calm, conditions, laid).
  DERIVED. THE GIVEN ROWS OF THIS SEAT. 12 by the template 'for every input the law returns true; each argument reads behind the call as it read before'; 0 by the template 'total and deterministic' (their statements: YtgfafnejgbblhaaTotals.lean).
  GIVEN WITH THE SEED: the statements are not yours to turn. If you find one false, say at which input.
  Laid BY PROGRAM, IN A SANDBOX (cutbox-rows.mjs): the forced cells as the released guide's own fill.sh prints them over the translation b9bc37ea078549b8… (all of the seat's roots in one cut). By AI agents, Wed Nov 11 2026. No macro, syntax, notation, axiom, sorry.
-/
import Derived.Test.YtgfafnejgbblhaaChecked
import GoSem.Claim
import GoSem.ClaimJoined
import GoSem.ClaimMapViews
import Derived.JoinedTies
import Derived.KernelRfl
namespace Go.Proofs.Ytgfafnejgbblhaa
/- THE CELL 'sum', in the pinned program and in every row, IS THE sha256 OF THE DUMP (.gsa) THAT YtgfafnejgbblhaaProg.lean LOADS. Nothing in Lean hashes anything: it is a label: what it is worth is what the hold of that sum in a sandbox is worth. -/
noncomputable def Try.pinned : Pinned := { name := "ytgfafnejgbblhaa", sum := "b9bc37ea078549b807f78c72a6952c8b481a3ae8362cca205325b1943bc6c7d6", checked := Try.checked }
namespace Rows
def none {H : Type} : Left H := { results := [], args := [] }

/-- 'laws.FnExactFactorial': WHATEVER THE INPUT: true; the input reads as it did. -/
def fnExactFactorialSpec : ChangeSpec := { name := "fnExactFactorial", fn := fun _ => fun
  | [d] => { results := [.lit (.bool true)], args := [d] }
  | _ => none }
def fnExactFactorialRow : OpenClaim := { program := "ytgfafnejgbblhaa", sum := "b9bc37ea078549b807f78c72a6952c8b481a3ae8362cca205325b1943bc6c7d6", func := "loop.example/g01104/laws.FnExactFactorial", spec := "fnExactFactorial", recurses := true, apart := false }
def FnExactFactorialSaid : Prop := fnExactFactorialRow.holds Try.pinned (OpenSpec.ofChange fnExactFactorialSpec)

/-- ITS FALSE NEIGHBOUR: 'it returns false'. Refute it at one input. -/
def fnExactFactorialWrong : ChangeSpec := { name := "fnExactFactorial", fn := fun _ => fun
  | [d] => { results := [.lit (.bool false)], args := [d] }
  | _ => none }
def FnExactFactorialWrongFalsely : Prop := fnExactFactorialRow.holds Try.pinned (OpenSpec.ofChange fnExactFactorialWrong)

/-- 'laws.FnExactBinomial': WHATEVER THE INPUT: true; the input reads as it did. -/
def fnExactBinomialSpec : ChangeSpec := { name := "fnExactBinomial", fn := fun _ => fun
  | [d1, d2] => { results := [.lit (.bool true)], args := [d1, d2] }
  | _ => none }
def fnExactBinomialRow : OpenClaim := { program := "ytgfafnejgbblhaa", sum := "b9bc37ea078549b807f78c72a6952c8b481a3ae8362cca205325b1943bc6c7d6", func := "loop.example/g01104/laws.FnExactBinomial", spec := "fnExactBinomial", recurses := true, apart := false }
def FnExactBinomialSaid : Prop := fnExactBinomialRow.holds Try.pinned (OpenSpec.ofChange fnExactBinomialSpec)

/-- ITS FALSE NEIGHBOUR: 'it returns false'. Refute it at one input. -/
def fnExactBinomialWrong : ChangeSpec := { name := "fnExactBinomial", fn := fun _ => fun
  | [d1, d2] => { results := [.lit (.bool false)], args := [d1, d2] }
  | _ => none }
def FnExactBinomialWrongFalsely : Prop := fnExactBinomialRow.holds Try.pinned (OpenSpec.ofChange fnExactBinomialWrong)

/-- 'laws.FnExactIsCombination': WHATEVER THE INPUT: true; the input reads as it did. -/
def fnExactIsCombinationSpec : ChangeSpec := { name := "fnExactIsCombination", fn := fun _ => fun
  | [d1, d2] => { results := [.lit (.bool true)], args := [d1, d2] }
  | _ => none }
def fnExactIsCombinationRow : OpenClaim := { program := "ytgfafnejgbblhaa", sum := "b9bc37ea078549b807f78c72a6952c8b481a3ae8362cca205325b1943bc6c7d6", func := "loop.example/g01104/laws.FnExactIsCombination", spec := "fnExactIsCombination", unfollowed := true, recurses := true, apart := false }
def FnExactIsCombinationSaid : Prop := fnExactIsCombinationRow.holds Try.pinned (OpenSpec.ofChange fnExactIsCombinationSpec)

/-- ITS FALSE NEIGHBOUR: 'it returns false'. Refute it at one input. -/
def fnExactIsCombinationWrong : ChangeSpec := { name := "fnExactIsCombination", fn := fun _ => fun
  | [d1, d2] => { results := [.lit (.bool false)], args := [d1, d2] }
  | _ => none }
def FnExactIsCombinationWrongFalsely : Prop := fnExactIsCombinationRow.holds Try.pinned (OpenSpec.ofChange fnExactIsCombinationWrong)

/-- 'laws.FnExactCombinationRank': WHATEVER THE INPUT: true; the input reads as it did. -/
def fnExactCombinationRankSpec : ChangeSpec := { name := "fnExactCombinationRank", fn := fun _ => fun
  | [d1, d2] => { results := [.lit (.bool true)], args := [d1, d2] }
  | _ => none }
def fnExactCombinationRankRow : OpenClaim := { program := "ytgfafnejgbblhaa", sum := "b9bc37ea078549b807f78c72a6952c8b481a3ae8362cca205325b1943bc6c7d6", func := "loop.example/g01104/laws.FnExactCombinationRank", spec := "fnExactCombinationRank", unfollowed := true, recurses := true, apart := false }
def FnExactCombinationRankSaid : Prop := fnExactCombinationRankRow.holds Try.pinned (OpenSpec.ofChange fnExactCombinationRankSpec)

/-- ITS FALSE NEIGHBOUR: 'it returns false'. Refute it at one input. -/
def fnExactCombinationRankWrong : ChangeSpec := { name := "fnExactCombinationRank", fn := fun _ => fun
  | [d1, d2] => { results := [.lit (.bool false)], args := [d1, d2] }
  | _ => none }
def FnExactCombinationRankWrongFalsely : Prop := fnExactCombinationRankRow.holds Try.pinned (OpenSpec.ofChange fnExactCombinationRankWrong)

/-- 'laws.FnExactCombinationAt': WHATEVER THE INPUT: true; the input reads as it did. -/
def fnExactCombinationAtSpec : ChangeSpec := { name := "fnExactCombinationAt", fn := fun _ => fun
  | [d1, d2, d3] => { results := [.lit (.bool true)], args := [d1, d2, d3] }
  | _ => none }
def fnExactCombinationAtRow : OpenClaim := { program := "ytgfafnejgbblhaa", sum := "b9bc37ea078549b807f78c72a6952c8b481a3ae8362cca205325b1943bc6c7d6", func := "loop.example/g01104/laws.FnExactCombinationAt", spec := "fnExactCombinationAt", recurses := true, apart := false }
def FnExactCombinationAtSaid : Prop := fnExactCombinationAtRow.holds Try.pinned (OpenSpec.ofChange fnExactCombinationAtSpec)

/-- ITS FALSE NEIGHBOUR: 'it returns false'. Refute it at one input. -/
def fnExactCombinationAtWrong : ChangeSpec := { name := "fnExactCombinationAt", fn := fun _ => fun
  | [d1, d2, d3] => { results := [.lit (.bool false)], args := [d1, d2, d3] }
  | _ => none }
def FnExactCombinationAtWrongFalsely : Prop := fnExactCombinationAtRow.holds Try.pinned (OpenSpec.ofChange fnExactCombinationAtWrong)

/-- 'laws.FnExactNextCombination': WHATEVER THE INPUT: true; the input reads as it did. -/
def fnExactNextCombinationSpec : ChangeSpec := { name := "fnExactNextCombination", fn := fun _ => fun
  | [d1, d2] => { results := [.lit (.bool true)], args := [d1, d2] }
  | _ => none }
def fnExactNextCombinationRow : OpenClaim := { program := "ytgfafnejgbblhaa", sum := "b9bc37ea078549b807f78c72a6952c8b481a3ae8362cca205325b1943bc6c7d6", func := "loop.example/g01104/laws.FnExactNextCombination", spec := "fnExactNextCombination", unfollowed := true, recurses := true, apart := false }
def FnExactNextCombinationSaid : Prop := fnExactNextCombinationRow.holds Try.pinned (OpenSpec.ofChange fnExactNextCombinationSpec)

/-- ITS FALSE NEIGHBOUR: 'it returns false'. Refute it at one input. -/
def fnExactNextCombinationWrong : ChangeSpec := { name := "fnExactNextCombination", fn := fun _ => fun
  | [d1, d2] => { results := [.lit (.bool false)], args := [d1, d2] }
  | _ => none }
def FnExactNextCombinationWrongFalsely : Prop := fnExactNextCombinationRow.holds Try.pinned (OpenSpec.ofChange fnExactNextCombinationWrong)

/-- 'laws.FnExactColexRank': WHATEVER THE INPUT: true; the input reads as it did. -/
def fnExactColexRankSpec : ChangeSpec := { name := "fnExactColexRank", fn := fun _ => fun
  | [d] => { results := [.lit (.bool true)], args := [d] }
  | _ => none }
def fnExactColexRankRow : OpenClaim := { program := "ytgfafnejgbblhaa", sum := "b9bc37ea078549b807f78c72a6952c8b481a3ae8362cca205325b1943bc6c7d6", func := "loop.example/g01104/laws.FnExactColexRank", spec := "fnExactColexRank", unfollowed := true, recurses := true, apart := false }
def FnExactColexRankSaid : Prop := fnExactColexRankRow.holds Try.pinned (OpenSpec.ofChange fnExactColexRankSpec)

/-- ITS FALSE NEIGHBOUR: 'it returns false'. Refute it at one input. -/
def fnExactColexRankWrong : ChangeSpec := { name := "fnExactColexRank", fn := fun _ => fun
  | [d] => { results := [.lit (.bool false)], args := [d] }
  | _ => none }
def FnExactColexRankWrongFalsely : Prop := fnExactColexRankRow.holds Try.pinned (OpenSpec.ofChange fnExactColexRankWrong)

/-- 'laws.FnExactColexAt': WHATEVER THE INPUT: true; the input reads as it did. -/
def fnExactColexAtSpec : ChangeSpec := { name := "fnExactColexAt", fn := fun _ => fun
  | [d1, d2] => { results := [.lit (.bool true)], args := [d1, d2] }
  | _ => none }
def fnExactColexAtRow : OpenClaim := { program := "ytgfafnejgbblhaa", sum := "b9bc37ea078549b807f78c72a6952c8b481a3ae8362cca205325b1943bc6c7d6", func := "loop.example/g01104/laws.FnExactColexAt", spec := "fnExactColexAt", recurses := true, apart := false }
def FnExactColexAtSaid : Prop := fnExactColexAtRow.holds Try.pinned (OpenSpec.ofChange fnExactColexAtSpec)

/-- ITS FALSE NEIGHBOUR: 'it returns false'. Refute it at one input. -/
def fnExactColexAtWrong : ChangeSpec := { name := "fnExactColexAt", fn := fun _ => fun
  | [d1, d2] => { results := [.lit (.bool false)], args := [d1, d2] }
  | _ => none }
def FnExactColexAtWrongFalsely : Prop := fnExactColexAtRow.holds Try.pinned (OpenSpec.ofChange fnExactColexAtWrong)

/-- 'laws.FnExactAllCombinations': WHATEVER THE INPUT: true; the input reads as it did. -/
def fnExactAllCombinationsSpec : ChangeSpec := { name := "fnExactAllCombinations", fn := fun _ => fun
  | [d1, d2] => { results := [.lit (.bool true)], args := [d1, d2] }
  | _ => none }
def fnExactAllCombinationsRow : OpenClaim := { program := "ytgfafnejgbblhaa", sum := "b9bc37ea078549b807f78c72a6952c8b481a3ae8362cca205325b1943bc6c7d6", func := "loop.example/g01104/laws.FnExactAllCombinations", spec := "fnExactAllCombinations", unfollowed := true, recurses := true, apart := false }
def FnExactAllCombinationsSaid : Prop := fnExactAllCombinationsRow.holds Try.pinned (OpenSpec.ofChange fnExactAllCombinationsSpec)

/-- ITS FALSE NEIGHBOUR: 'it returns false'. Refute it at one input. -/
def fnExactAllCombinationsWrong : ChangeSpec := { name := "fnExactAllCombinations", fn := fun _ => fun
  | [d1, d2] => { results := [.lit (.bool false)], args := [d1, d2] }
  | _ => none }
def FnExactAllCombinationsWrongFalsely : Prop := fnExactAllCombinationsRow.holds Try.pinned (OpenSpec.ofChange fnExactAllCombinationsWrong)

/-- 'laws.FnExactIsPermutation': WHATEVER THE INPUT: true; the input reads as it did. -/
def fnExactIsPermutationSpec : ChangeSpec := { name := "fnExactIsPermutation", fn := fun _ => fun
  | [d] => { results := [.lit (.bool true)], args := [d] }
  | _ => none }
def fnExactIsPermutationRow : OpenClaim := { program := "ytgfafnejgbblhaa", sum := "b9bc37ea078549b807f78c72a6952c8b481a3ae8362cca205325b1943bc6c7d6", func := "loop.example/g01104/laws.FnExactIsPermutation", spec := "fnExactIsPermutation", apart := false }
def FnExactIsPermutationSaid : Prop := fnExactIsPermutationRow.holds Try.pinned (OpenSpec.ofChange fnExactIsPermutationSpec)

/-- ITS FALSE NEIGHBOUR: 'it returns false'. Refute it at one input. -/
def fnExactIsPermutationWrong : ChangeSpec := { name := "fnExactIsPermutation", fn := fun _ => fun
  | [d] => { results := [.lit (.bool false)], args := [d] }
  | _ => none }
def FnExactIsPermutationWrongFalsely : Prop := fnExactIsPermutationRow.holds Try.pinned (OpenSpec.ofChange fnExactIsPermutationWrong)

/-- 'laws.FnExactPermutationRank': WHATEVER THE INPUT: true; the input reads as it did. -/
def fnExactPermutationRankSpec : ChangeSpec := { name := "fnExactPermutationRank", fn := fun _ => fun
  | [d] => { results := [.lit (.bool true)], args := [d] }
  | _ => none }
def fnExactPermutationRankRow : OpenClaim := { program := "ytgfafnejgbblhaa", sum := "b9bc37ea078549b807f78c72a6952c8b481a3ae8362cca205325b1943bc6c7d6", func := "loop.example/g01104/laws.FnExactPermutationRank", spec := "fnExactPermutationRank", unfollowed := true, recurses := true, apart := false }
def FnExactPermutationRankSaid : Prop := fnExactPermutationRankRow.holds Try.pinned (OpenSpec.ofChange fnExactPermutationRankSpec)

/-- ITS FALSE NEIGHBOUR: 'it returns false'. Refute it at one input. -/
def fnExactPermutationRankWrong : ChangeSpec := { name := "fnExactPermutationRank", fn := fun _ => fun
  | [d] => { results := [.lit (.bool false)], args := [d] }
  | _ => none }
def FnExactPermutationRankWrongFalsely : Prop := fnExactPermutationRankRow.holds Try.pinned (OpenSpec.ofChange fnExactPermutationRankWrong)

/-- 'laws.FnExactPermutationAt': WHATEVER THE INPUT: true; the input reads as it did. -/
def fnExactPermutationAtSpec : ChangeSpec := { name := "fnExactPermutationAt", fn := fun _ => fun
  | [d1, d2] => { results := [.lit (.bool true)], args := [d1, d2] }
  | _ => none }
def fnExactPermutationAtRow : OpenClaim := { program := "ytgfafnejgbblhaa", sum := "b9bc37ea078549b807f78c72a6952c8b481a3ae8362cca205325b1943bc6c7d6", func := "loop.example/g01104/laws.FnExactPermutationAt", spec := "fnExactPermutationAt", recurses := true, apart := false }
def FnExactPermutationAtSaid : Prop := fnExactPermutationAtRow.holds Try.pinned (OpenSpec.ofChange fnExactPermutationAtSpec)

/-- ITS FALSE NEIGHBOUR: 'it returns false'. Refute it at one input. -/
def fnExactPermutationAtWrong : ChangeSpec := { name := "fnExactPermutationAt", fn := fun _ => fun
  | [d1, d2] => { results := [.lit (.bool false)], args := [d1, d2] }
  | _ => none }
def FnExactPermutationAtWrongFalsely : Prop := fnExactPermutationAtRow.holds Try.pinned (OpenSpec.ofChange fnExactPermutationAtWrong)

/- THE SECOND FORM. 'bulk': how many values and letters a reading holds, each counted each time it is reached (what is shared counts as often as it is met; a slice's spare places count too). A statement '..UptoSaid' is the law's where the arguments, and the package variables that the reading takes, are together of bulk at most 1048576: NARROWER than '..Said'. Prove '..Said' where nothing that the law and all that it calls make is longer than what came in: it says more and counts as full. Else prove '..UptoSaid'. A law counts once. -/
mutual
def uptoBulk {H : Type} : DataW H → Nat
  | .lit (.string bytes) => bytes.length + 1
  | .lit _ => 1
  | .nil => 1
  | .ptr d => uptoBulk d + 1
  | .slice elems spare => uptoBulkAll elems + uptoBulkAll spare + 1
  | .agg parts => uptoBulkAll parts + 1
  | .iface _ d => uptoBulk d + 1
  | .map entries => uptoBulkEntries entries + 1
  | .held _ => 1
def uptoBulkAll {H : Type} : List (DataW H) → Nat
  | [] => 0
  | d :: r => uptoBulk d + uptoBulkAll r
def uptoBulkEntries {H : Type} : List (Lit × DataW H) → Nat
  | [] => 0
  | x :: r => uptoBulkEntry x + uptoBulkEntries r
def uptoBulkEntry {H : Type} : Lit × DataW H → Nat
  | (.string bytes, d) => bytes.length + uptoBulk d + 1
  | (_, d) => uptoBulk d + 1
 end
def uptoSmall : (H : Type) → List (DataW H) → Bool := fun _ ds => decide (uptoBulkAll ds ≤ 1048576)
def OpenSpec.upto (s : _root_.Go.ChangeSpec) : _root_.Go.OpenSpec := { _root_.Go.OpenSpec.ofChange s with cond := some uptoSmall }

/-- 'laws.FnExactFactorial', WHERE WHAT IT READS IS OF BULK AT MOST 1048576: true; the input reads as it did. -/
def fnExactFactorialUptoRow : OpenClaim := { program := "ytgfafnejgbblhaa", sum := "b9bc37ea078549b807f78c72a6952c8b481a3ae8362cca205325b1943bc6c7d6", func := "loop.example/g01104/laws.FnExactFactorial", spec := "fnExactFactorial", recurses := true, apart := false, narrowed := true }
def FnExactFactorialUptoSaid : Prop := fnExactFactorialUptoRow.holds Try.pinned (OpenSpec.upto fnExactFactorialSpec)

/-- 'laws.FnExactBinomial', WHERE WHAT IT READS IS OF BULK AT MOST 1048576: true; the input reads as it did. -/
def fnExactBinomialUptoRow : OpenClaim := { program := "ytgfafnejgbblhaa", sum := "b9bc37ea078549b807f78c72a6952c8b481a3ae8362cca205325b1943bc6c7d6", func := "loop.example/g01104/laws.FnExactBinomial", spec := "fnExactBinomial", recurses := true, apart := false, narrowed := true }
def FnExactBinomialUptoSaid : Prop := fnExactBinomialUptoRow.holds Try.pinned (OpenSpec.upto fnExactBinomialSpec)

/-- 'laws.FnExactIsCombination', WHERE WHAT IT READS IS OF BULK AT MOST 1048576: true; the input reads as it did. -/
def fnExactIsCombinationUptoRow : OpenClaim := { program := "ytgfafnejgbblhaa", sum := "b9bc37ea078549b807f78c72a6952c8b481a3ae8362cca205325b1943bc6c7d6", func := "loop.example/g01104/laws.FnExactIsCombination", spec := "fnExactIsCombination", unfollowed := true, recurses := true, apart := false, narrowed := true }
def FnExactIsCombinationUptoSaid : Prop := fnExactIsCombinationUptoRow.holds Try.pinned (OpenSpec.upto fnExactIsCombinationSpec)

/-- 'laws.FnExactCombinationRank', WHERE WHAT IT READS IS OF BULK AT MOST 1048576: true; the input reads as it did. -/
def fnExactCombinationRankUptoRow : OpenClaim := { program := "ytgfafnejgbblhaa", sum := "b9bc37ea078549b807f78c72a6952c8b481a3ae8362cca205325b1943bc6c7d6", func := "loop.example/g01104/laws.FnExactCombinationRank", spec := "fnExactCombinationRank", unfollowed := true, recurses := true, apart := false, narrowed := true }
def FnExactCombinationRankUptoSaid : Prop := fnExactCombinationRankUptoRow.holds Try.pinned (OpenSpec.upto fnExactCombinationRankSpec)

/-- 'laws.FnExactCombinationAt', WHERE WHAT IT READS IS OF BULK AT MOST 1048576: true; the input reads as it did. -/
def fnExactCombinationAtUptoRow : OpenClaim := { program := "ytgfafnejgbblhaa", sum := "b9bc37ea078549b807f78c72a6952c8b481a3ae8362cca205325b1943bc6c7d6", func := "loop.example/g01104/laws.FnExactCombinationAt", spec := "fnExactCombinationAt", recurses := true, apart := false, narrowed := true }
def FnExactCombinationAtUptoSaid : Prop := fnExactCombinationAtUptoRow.holds Try.pinned (OpenSpec.upto fnExactCombinationAtSpec)

/-- 'laws.FnExactNextCombination', WHERE WHAT IT READS IS OF BULK AT MOST 1048576: true; the input reads as it did. -/
def fnExactNextCombinationUptoRow : OpenClaim := { program := "ytgfafnejgbblhaa", sum := "b9bc37ea078549b807f78c72a6952c8b481a3ae8362cca205325b1943bc6c7d6", func := "loop.example/g01104/laws.FnExactNextCombination", spec := "fnExactNextCombination", unfollowed := true, recurses := true, apart := false, narrowed := true }
def FnExactNextCombinationUptoSaid : Prop := fnExactNextCombinationUptoRow.holds Try.pinned (OpenSpec.upto fnExactNextCombinationSpec)

/-- 'laws.FnExactColexRank', WHERE WHAT IT READS IS OF BULK AT MOST 1048576: true; the input reads as it did. -/
def fnExactColexRankUptoRow : OpenClaim := { program := "ytgfafnejgbblhaa", sum := "b9bc37ea078549b807f78c72a6952c8b481a3ae8362cca205325b1943bc6c7d6", func := "loop.example/g01104/laws.FnExactColexRank", spec := "fnExactColexRank", unfollowed := true, recurses := true, apart := false, narrowed := true }
def FnExactColexRankUptoSaid : Prop := fnExactColexRankUptoRow.holds Try.pinned (OpenSpec.upto fnExactColexRankSpec)

/-- 'laws.FnExactColexAt', WHERE WHAT IT READS IS OF BULK AT MOST 1048576: true; the input reads as it did. -/
def fnExactColexAtUptoRow : OpenClaim := { program := "ytgfafnejgbblhaa", sum := "b9bc37ea078549b807f78c72a6952c8b481a3ae8362cca205325b1943bc6c7d6", func := "loop.example/g01104/laws.FnExactColexAt", spec := "fnExactColexAt", recurses := true, apart := false, narrowed := true }
def FnExactColexAtUptoSaid : Prop := fnExactColexAtUptoRow.holds Try.pinned (OpenSpec.upto fnExactColexAtSpec)

/-- 'laws.FnExactAllCombinations', WHERE WHAT IT READS IS OF BULK AT MOST 1048576: true; the input reads as it did. -/
def fnExactAllCombinationsUptoRow : OpenClaim := { program := "ytgfafnejgbblhaa", sum := "b9bc37ea078549b807f78c72a6952c8b481a3ae8362cca205325b1943bc6c7d6", func := "loop.example/g01104/laws.FnExactAllCombinations", spec := "fnExactAllCombinations", unfollowed := true, recurses := true, apart := false, narrowed := true }
def FnExactAllCombinationsUptoSaid : Prop := fnExactAllCombinationsUptoRow.holds Try.pinned (OpenSpec.upto fnExactAllCombinationsSpec)

/-- 'laws.FnExactIsPermutation', WHERE WHAT IT READS IS OF BULK AT MOST 1048576: true; the input reads as it did. -/
def fnExactIsPermutationUptoRow : OpenClaim := { program := "ytgfafnejgbblhaa", sum := "b9bc37ea078549b807f78c72a6952c8b481a3ae8362cca205325b1943bc6c7d6", func := "loop.example/g01104/laws.FnExactIsPermutation", spec := "fnExactIsPermutation", apart := false, narrowed := true }
def FnExactIsPermutationUptoSaid : Prop := fnExactIsPermutationUptoRow.holds Try.pinned (OpenSpec.upto fnExactIsPermutationSpec)

/-- 'laws.FnExactPermutationRank', WHERE WHAT IT READS IS OF BULK AT MOST 1048576: true; the input reads as it did. -/
def fnExactPermutationRankUptoRow : OpenClaim := { program := "ytgfafnejgbblhaa", sum := "b9bc37ea078549b807f78c72a6952c8b481a3ae8362cca205325b1943bc6c7d6", func := "loop.example/g01104/laws.FnExactPermutationRank", spec := "fnExactPermutationRank", unfollowed := true, recurses := true, apart := false, narrowed := true }
def FnExactPermutationRankUptoSaid : Prop := fnExactPermutationRankUptoRow.holds Try.pinned (OpenSpec.upto fnExactPermutationRankSpec)

/-- 'laws.FnExactPermutationAt', WHERE WHAT IT READS IS OF BULK AT MOST 1048576: true; the input reads as it did. -/
def fnExactPermutationAtUptoRow : OpenClaim := { program := "ytgfafnejgbblhaa", sum := "b9bc37ea078549b807f78c72a6952c8b481a3ae8362cca205325b1943bc6c7d6", func := "loop.example/g01104/laws.FnExactPermutationAt", spec := "fnExactPermutationAt", recurses := true, apart := false, narrowed := true }
def FnExactPermutationAtUptoSaid : Prop := fnExactPermutationAtUptoRow.holds Try.pinned (OpenSpec.upto fnExactPermutationAtSpec)

end Rows
end Go.Proofs.Ytgfafnejgbblhaa
