/-
  No cell of these rows narrows 'for every input' (looked for: loops, veiled, ifaces, maps, wideKeys, modest, calm, conditions, laid).
  DERIVED. THE GIVEN ROWS OF THIS SEAT. 8 by the template 'for every input the law returns true; each argument reads behind the call as it read before'; 0 by the template 'total and deterministic' (their statements: YtgfafnejgbblhabTotals.lean).
  GIVEN WITH THE SEED: the statements are not yours to turn. If you find one false, say at which input.
  Laid BY PROGRAM, IN A SANDBOX (cutbox-rows.mjs): the forced cells as the released guide's own fill.sh prints them over the translation f4b7760f6c335289… (all of the seat's roots in one cut). By AI agents, Wed Nov 11 2026. No macro, syntax, notation, axiom, sorry.
-/
import Derived.Test.YtgfafnejgbblhabChecked
import GoSem.Claim
import GoSem.ClaimJoined
import GoSem.ClaimMapViews
import Derived.JoinedTies
import Derived.KernelRfl
namespace Go.Proofs.Ytgfafnejgbblhab
/- THE CELL 'sum', in the pinned program and in every row, IS THE sha256 OF THE DUMP (.gsa) THAT YtgfafnejgbblhabProg.lean LOADS. Nothing in Lean hashes anything: it is a label: what it is worth is what the hold of that sum in a sandbox is worth. -/
noncomputable def Try.pinned : Pinned := { name := "ytgfafnejgbblhab", sum := "f4b7760f6c3352898159c50735ebdaba3d287086a7c0078ecf7e92d2dbd0bab3", checked := Try.checked }
namespace Rows
def none {H : Type} : Left H := { results := [], args := [] }

/-- 'laws.FnExactNextPermutation': WHATEVER THE INPUT: true; the input reads as it did. -/
def fnExactNextPermutationSpec : ChangeSpec := { name := "fnExactNextPermutation", fn := fun _ => fun
  | [d] => { results := [.lit (.bool true)], args := [d] }
  | _ => none }
def fnExactNextPermutationRow : OpenClaim := { program := "ytgfafnejgbblhab", sum := "f4b7760f6c3352898159c50735ebdaba3d287086a7c0078ecf7e92d2dbd0bab3", func := "loop.example/g01104/laws.FnExactNextPermutation", spec := "fnExactNextPermutation", unfollowed := true, recurses := true, apart := false }
def FnExactNextPermutationSaid : Prop := fnExactNextPermutationRow.holds Try.pinned (OpenSpec.ofChange fnExactNextPermutationSpec)

/-- ITS FALSE NEIGHBOUR: 'it returns false'. Refute it at one input. -/
def fnExactNextPermutationWrong : ChangeSpec := { name := "fnExactNextPermutation", fn := fun _ => fun
  | [d] => { results := [.lit (.bool false)], args := [d] }
  | _ => none }
def FnExactNextPermutationWrongFalsely : Prop := fnExactNextPermutationRow.holds Try.pinned (OpenSpec.ofChange fnExactNextPermutationWrong)

/-- 'laws.FnExactInversionsOf': WHATEVER THE INPUT: true; the input reads as it did. -/
def fnExactInversionsOfSpec : ChangeSpec := { name := "fnExactInversionsOf", fn := fun _ => fun
  | [d] => { results := [.lit (.bool true)], args := [d] }
  | _ => none }
def fnExactInversionsOfRow : OpenClaim := { program := "ytgfafnejgbblhab", sum := "f4b7760f6c3352898159c50735ebdaba3d287086a7c0078ecf7e92d2dbd0bab3", func := "loop.example/g01104/laws.FnExactInversionsOf", spec := "fnExactInversionsOf", unfollowed := true, recurses := true, apart := false }
def FnExactInversionsOfSaid : Prop := fnExactInversionsOfRow.holds Try.pinned (OpenSpec.ofChange fnExactInversionsOfSpec)

/-- ITS FALSE NEIGHBOUR: 'it returns false'. Refute it at one input. -/
def fnExactInversionsOfWrong : ChangeSpec := { name := "fnExactInversionsOf", fn := fun _ => fun
  | [d] => { results := [.lit (.bool false)], args := [d] }
  | _ => none }
def FnExactInversionsOfWrongFalsely : Prop := fnExactInversionsOfRow.holds Try.pinned (OpenSpec.ofChange fnExactInversionsOfWrong)

/-- 'laws.FnExactFromInversions': WHATEVER THE INPUT: true; the input reads as it did. -/
def fnExactFromInversionsSpec : ChangeSpec := { name := "fnExactFromInversions", fn := fun _ => fun
  | [d] => { results := [.lit (.bool true)], args := [d] }
  | _ => none }
def fnExactFromInversionsRow : OpenClaim := { program := "ytgfafnejgbblhab", sum := "f4b7760f6c3352898159c50735ebdaba3d287086a7c0078ecf7e92d2dbd0bab3", func := "loop.example/g01104/laws.FnExactFromInversions", spec := "fnExactFromInversions", apart := false }
def FnExactFromInversionsSaid : Prop := fnExactFromInversionsRow.holds Try.pinned (OpenSpec.ofChange fnExactFromInversionsSpec)

/-- ITS FALSE NEIGHBOUR: 'it returns false'. Refute it at one input. -/
def fnExactFromInversionsWrong : ChangeSpec := { name := "fnExactFromInversions", fn := fun _ => fun
  | [d] => { results := [.lit (.bool false)], args := [d] }
  | _ => none }
def FnExactFromInversionsWrongFalsely : Prop := fnExactFromInversionsRow.holds Try.pinned (OpenSpec.ofChange fnExactFromInversionsWrong)

/-- 'laws.FnExactSignOf': WHATEVER THE INPUT: true; the input reads as it did. -/
def fnExactSignOfSpec : ChangeSpec := { name := "fnExactSignOf", fn := fun _ => fun
  | [d] => { results := [.lit (.bool true)], args := [d] }
  | _ => none }
def fnExactSignOfRow : OpenClaim := { program := "ytgfafnejgbblhab", sum := "f4b7760f6c3352898159c50735ebdaba3d287086a7c0078ecf7e92d2dbd0bab3", func := "loop.example/g01104/laws.FnExactSignOf", spec := "fnExactSignOf", unfollowed := true, recurses := true, apart := false }
def FnExactSignOfSaid : Prop := fnExactSignOfRow.holds Try.pinned (OpenSpec.ofChange fnExactSignOfSpec)

/-- ITS FALSE NEIGHBOUR: 'it returns false'. Refute it at one input. -/
def fnExactSignOfWrong : ChangeSpec := { name := "fnExactSignOf", fn := fun _ => fun
  | [d] => { results := [.lit (.bool false)], args := [d] }
  | _ => none }
def FnExactSignOfWrongFalsely : Prop := fnExactSignOfRow.holds Try.pinned (OpenSpec.ofChange fnExactSignOfWrong)

/-- 'laws.FnExactInverseOf': WHATEVER THE INPUT: true; the input reads as it did. -/
def fnExactInverseOfSpec : ChangeSpec := { name := "fnExactInverseOf", fn := fun _ => fun
  | [d] => { results := [.lit (.bool true)], args := [d] }
  | _ => none }
def fnExactInverseOfRow : OpenClaim := { program := "ytgfafnejgbblhab", sum := "f4b7760f6c3352898159c50735ebdaba3d287086a7c0078ecf7e92d2dbd0bab3", func := "loop.example/g01104/laws.FnExactInverseOf", spec := "fnExactInverseOf", apart := false }
def FnExactInverseOfSaid : Prop := fnExactInverseOfRow.holds Try.pinned (OpenSpec.ofChange fnExactInverseOfSpec)

/-- ITS FALSE NEIGHBOUR: 'it returns false'. Refute it at one input. -/
def fnExactInverseOfWrong : ChangeSpec := { name := "fnExactInverseOf", fn := fun _ => fun
  | [d] => { results := [.lit (.bool false)], args := [d] }
  | _ => none }
def FnExactInverseOfWrongFalsely : Prop := fnExactInverseOfRow.holds Try.pinned (OpenSpec.ofChange fnExactInverseOfWrong)

/-- 'laws.FnExactAllPermutations': WHATEVER THE INPUT: true; the input reads as it did. -/
def fnExactAllPermutationsSpec : ChangeSpec := { name := "fnExactAllPermutations", fn := fun _ => fun
  | [d] => { results := [.lit (.bool true)], args := [d] }
  | _ => none }
def fnExactAllPermutationsRow : OpenClaim := { program := "ytgfafnejgbblhab", sum := "f4b7760f6c3352898159c50735ebdaba3d287086a7c0078ecf7e92d2dbd0bab3", func := "loop.example/g01104/laws.FnExactAllPermutations", spec := "fnExactAllPermutations", unfollowed := true, recurses := true, apart := false }
def FnExactAllPermutationsSaid : Prop := fnExactAllPermutationsRow.holds Try.pinned (OpenSpec.ofChange fnExactAllPermutationsSpec)

/-- ITS FALSE NEIGHBOUR: 'it returns false'. Refute it at one input. -/
def fnExactAllPermutationsWrong : ChangeSpec := { name := "fnExactAllPermutations", fn := fun _ => fun
  | [d] => { results := [.lit (.bool false)], args := [d] }
  | _ => none }
def FnExactAllPermutationsWrongFalsely : Prop := fnExactAllPermutationsRow.holds Try.pinned (OpenSpec.ofChange fnExactAllPermutationsWrong)

/-- 'laws.FnExactDigitsAt': WHATEVER THE INPUT: true; the input reads as it did. -/
def fnExactDigitsAtSpec : ChangeSpec := { name := "fnExactDigitsAt", fn := fun _ => fun
  | [d1, d2] => { results := [.lit (.bool true)], args := [d1, d2] }
  | _ => none }
def fnExactDigitsAtRow : OpenClaim := { program := "ytgfafnejgbblhab", sum := "f4b7760f6c3352898159c50735ebdaba3d287086a7c0078ecf7e92d2dbd0bab3", func := "loop.example/g01104/laws.FnExactDigitsAt", spec := "fnExactDigitsAt", apart := false }
def FnExactDigitsAtSaid : Prop := fnExactDigitsAtRow.holds Try.pinned (OpenSpec.ofChange fnExactDigitsAtSpec)

/-- ITS FALSE NEIGHBOUR: 'it returns false'. Refute it at one input. -/
def fnExactDigitsAtWrong : ChangeSpec := { name := "fnExactDigitsAt", fn := fun _ => fun
  | [d1, d2] => { results := [.lit (.bool false)], args := [d1, d2] }
  | _ => none }
def FnExactDigitsAtWrongFalsely : Prop := fnExactDigitsAtRow.holds Try.pinned (OpenSpec.ofChange fnExactDigitsAtWrong)

/-- 'laws.FnExactRankOfDigits': WHATEVER THE INPUT: true; the input reads as it did. -/
def fnExactRankOfDigitsSpec : ChangeSpec := { name := "fnExactRankOfDigits", fn := fun _ => fun
  | [d1, d2] => { results := [.lit (.bool true)], args := [d1, d2] }
  | _ => none }
def fnExactRankOfDigitsRow : OpenClaim := { program := "ytgfafnejgbblhab", sum := "f4b7760f6c3352898159c50735ebdaba3d287086a7c0078ecf7e92d2dbd0bab3", func := "loop.example/g01104/laws.FnExactRankOfDigits", spec := "fnExactRankOfDigits", apart := false }
def FnExactRankOfDigitsSaid : Prop := fnExactRankOfDigitsRow.holds Try.pinned (OpenSpec.ofChange fnExactRankOfDigitsSpec)

/-- ITS FALSE NEIGHBOUR: 'it returns false'. Refute it at one input. -/
def fnExactRankOfDigitsWrong : ChangeSpec := { name := "fnExactRankOfDigits", fn := fun _ => fun
  | [d1, d2] => { results := [.lit (.bool false)], args := [d1, d2] }
  | _ => none }
def FnExactRankOfDigitsWrongFalsely : Prop := fnExactRankOfDigitsRow.holds Try.pinned (OpenSpec.ofChange fnExactRankOfDigitsWrong)

/- THE SECOND FORM. 'bulk': how many values and letters a reading holds, each counted each time it is reached (what is shared counts as often as it is met; a slice's spare places count too). A statement '..UptoSaid' is the law's where the arguments, and the package variables that the reading takes, are together of bulk at most 1048576: NARROWER than '..Said'. Prove '..Said' where nothing that the law and all that it calls make is longer than what came in: it says more and counts as full. Else prove '..UptoSaid'. A law counts once. -/
mutual
def uptoBulk {H : Type} : DataW H → Nat
  | .lit (.string bytes) => bytes.length + 1
  | .lit _ => 1
  | .nil => 1
  | .ptr d => uptoBulk d + 1
  | .slice elems spare => uptoBulkAll elems + uptoBulkAll spare + 1
  | .agg parts => uptoBulkAll parts + 1
  | .iface _ d => uptoBulk d + 1
  | .map entries => uptoBulkEntries entries + 1
  | .held _ => 1
def uptoBulkAll {H : Type} : List (DataW H) → Nat
  | [] => 0
  | d :: r => uptoBulk d + uptoBulkAll r
def uptoBulkEntries {H : Type} : List (Lit × DataW H) → Nat
  | [] => 0
  | x :: r => uptoBulkEntry x + uptoBulkEntries r
def uptoBulkEntry {H : Type} : Lit × DataW H → Nat
  | (.string bytes, d) => bytes.length + uptoBulk d + 1
  | (_, d) => uptoBulk d + 1
 end
def uptoSmall : (H : Type) → List (DataW H) → Bool := fun _ ds => decide (uptoBulkAll ds ≤ 1048576)
def OpenSpec.upto (s : _root_.Go.ChangeSpec) : _root_.Go.OpenSpec := { _root_.Go.OpenSpec.ofChange s with cond := some uptoSmall }

/-- 'laws.FnExactNextPermutation', WHERE WHAT IT READS IS OF BULK AT MOST 1048576: true; the input reads as it did. -/
def fnExactNextPermutationUptoRow : OpenClaim := { program := "ytgfafnejgbblhab", sum := "f4b7760f6c3352898159c50735ebdaba3d287086a7c0078ecf7e92d2dbd0bab3", func := "loop.example/g01104/laws.FnExactNextPermutation", spec := "fnExactNextPermutation", unfollowed := true, recurses := true, apart := false, narrowed := true }
def FnExactNextPermutationUptoSaid : Prop := fnExactNextPermutationUptoRow.holds Try.pinned (OpenSpec.upto fnExactNextPermutationSpec)

/-- 'laws.FnExactInversionsOf', WHERE WHAT IT READS IS OF BULK AT MOST 1048576: true; the input reads as it did. -/
def fnExactInversionsOfUptoRow : OpenClaim := { program := "ytgfafnejgbblhab", sum := "f4b7760f6c3352898159c50735ebdaba3d287086a7c0078ecf7e92d2dbd0bab3", func := "loop.example/g01104/laws.FnExactInversionsOf", spec := "fnExactInversionsOf", unfollowed := true, recurses := true, apart := false, narrowed := true }
def FnExactInversionsOfUptoSaid : Prop := fnExactInversionsOfUptoRow.holds Try.pinned (OpenSpec.upto fnExactInversionsOfSpec)

/-- 'laws.FnExactFromInversions', WHERE WHAT IT READS IS OF BULK AT MOST 1048576: true; the input reads as it did. -/
def fnExactFromInversionsUptoRow : OpenClaim := { program := "ytgfafnejgbblhab", sum := "f4b7760f6c3352898159c50735ebdaba3d287086a7c0078ecf7e92d2dbd0bab3", func := "loop.example/g01104/laws.FnExactFromInversions", spec := "fnExactFromInversions", apart := false, narrowed := true }
def FnExactFromInversionsUptoSaid : Prop := fnExactFromInversionsUptoRow.holds Try.pinned (OpenSpec.upto fnExactFromInversionsSpec)

/-- 'laws.FnExactSignOf', WHERE WHAT IT READS IS OF BULK AT MOST 1048576: true; the input reads as it did. -/
def fnExactSignOfUptoRow : OpenClaim := { program := "ytgfafnejgbblhab", sum := "f4b7760f6c3352898159c50735ebdaba3d287086a7c0078ecf7e92d2dbd0bab3", func := "loop.example/g01104/laws.FnExactSignOf", spec := "fnExactSignOf", unfollowed := true, recurses := true, apart := false, narrowed := true }
def FnExactSignOfUptoSaid : Prop := fnExactSignOfUptoRow.holds Try.pinned (OpenSpec.upto fnExactSignOfSpec)

/-- 'laws.FnExactInverseOf', WHERE WHAT IT READS IS OF BULK AT MOST 1048576: true; the input reads as it did. -/
def fnExactInverseOfUptoRow : OpenClaim := { program := "ytgfafnejgbblhab", sum := "f4b7760f6c3352898159c50735ebdaba3d287086a7c0078ecf7e92d2dbd0bab3", func := "loop.example/g01104/laws.FnExactInverseOf", spec := "fnExactInverseOf", apart := false, narrowed := true }
def FnExactInverseOfUptoSaid : Prop := fnExactInverseOfUptoRow.holds Try.pinned (OpenSpec.upto fnExactInverseOfSpec)

/-- 'laws.FnExactAllPermutations', WHERE WHAT IT READS IS OF BULK AT MOST 1048576: true; the input reads as it did. -/
def fnExactAllPermutationsUptoRow : OpenClaim := { program := "ytgfafnejgbblhab", sum := "f4b7760f6c3352898159c50735ebdaba3d287086a7c0078ecf7e92d2dbd0bab3", func := "loop.example/g01104/laws.FnExactAllPermutations", spec := "fnExactAllPermutations", unfollowed := true, recurses := true, apart := false, narrowed := true }
def FnExactAllPermutationsUptoSaid : Prop := fnExactAllPermutationsUptoRow.holds Try.pinned (OpenSpec.upto fnExactAllPermutationsSpec)

/-- 'laws.FnExactDigitsAt', WHERE WHAT IT READS IS OF BULK AT MOST 1048576: true; the input reads as it did. -/
def fnExactDigitsAtUptoRow : OpenClaim := { program := "ytgfafnejgbblhab", sum := "f4b7760f6c3352898159c50735ebdaba3d287086a7c0078ecf7e92d2dbd0bab3", func := "loop.example/g01104/laws.FnExactDigitsAt", spec := "fnExactDigitsAt", apart := false, narrowed := true }
def FnExactDigitsAtUptoSaid : Prop := fnExactDigitsAtUptoRow.holds Try.pinned (OpenSpec.upto fnExactDigitsAtSpec)

/-- 'laws.FnExactRankOfDigits', WHERE WHAT IT READS IS OF BULK AT MOST 1048576: true; the input reads as it did. -/
def fnExactRankOfDigitsUptoRow : OpenClaim := { program := "ytgfafnejgbblhab", sum := "f4b7760f6c3352898159c50735ebdaba3d287086a7c0078ecf7e92d2dbd0bab3", func := "loop.example/g01104/laws.FnExactRankOfDigits", spec := "fnExactRankOfDigits", apart := false, narrowed := true }
def FnExactRankOfDigitsUptoSaid : Prop := fnExactRankOfDigitsUptoRow.holds Try.pinned (OpenSpec.upto fnExactRankOfDigitsSpec)

end Rows
end Go.Proofs.Ytgfafnejgbblhab
