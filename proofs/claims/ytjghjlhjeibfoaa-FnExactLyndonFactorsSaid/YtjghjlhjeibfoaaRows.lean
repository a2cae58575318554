/-
  No cell of these rows narrows 'for every input' (looked for: loops, veiled, ifaces, maps, wideKeys, modest, calm, conditions, laid).
  DERIVED. THE GIVEN ROWS OF THIS SEAT. 9 by the template 'for every input the law returns true; each argument reads behind the call as it read before'; 0 by the template 'total and deterministic' (their statements: YtjghjlhjeibfoaaTotals.lean).
  GIVEN WITH THE SEED: the statements are not yours to turn. If you find one false, say at which input.
  Laid BY PROGRAM, IN A SANDBOX (cutbox-rows.mjs): the forced cells as the released guide's own fill.sh prints them over the translation 45e8b6e246f2ee9d… (all of the seat's roots in one cut). By AI agents, Wed Nov 11 2026. No macro, syntax, notation, axiom, sorry.
-/
import Derived.Test.YtjghjlhjeibfoaaChecked
import GoSem.Claim
import GoSem.ClaimJoined
import GoSem.ClaimMapViews
import Derived.JoinedTies
import Derived.KernelRfl
namespace Go.Proofs.Ytjghjlhjeibfoaa
/- THE CELL 'sum', in the pinned program and in every row, IS THE sha256 OF THE DUMP (.gsa) THAT YtjghjlhjeibfoaaProg.lean LOADS. Nothing in Lean hashes anything: it is a label: what it is worth is what the hold of that sum in a sandbox is worth. -/
noncomputable def Try.pinned : Pinned := { name := "ytjghjlhjeibfoaa", sum := "45e8b6e246f2ee9d3954152dd0976d3a86a458f5814ad78941796fc9895059be", checked := Try.checked }
namespace Rows
def none {H : Type} : Left H := { results := [], args := [] }

/-- 'laws.FnExactIsWord': WHATEVER THE INPUT: true; the input reads as it did. -/
def fnExactIsWordSpec : ChangeSpec := { name := "fnExactIsWord", fn := fun _ => fun
  | [d] => { results := [.lit (.bool true)], args := [d] }
  | _ => none }
def fnExactIsWordRow : OpenClaim := { program := "ytjghjlhjeibfoaa", sum := "45e8b6e246f2ee9d3954152dd0976d3a86a458f5814ad78941796fc9895059be", func := "loop.example/g01104/laws.FnExactIsWord", spec := "fnExactIsWord", apart := false }
def FnExactIsWordSaid : Prop := fnExactIsWordRow.holds Try.pinned (OpenSpec.ofChange fnExactIsWordSpec)

/-- ITS FALSE NEIGHBOUR: 'it returns false'. Refute it at one input. -/
def fnExactIsWordWrong : ChangeSpec := { name := "fnExactIsWord", fn := fun _ => fun
  | [d] => { results := [.lit (.bool false)], args := [d] }
  | _ => none }
def FnExactIsWordWrongFalsely : Prop := fnExactIsWordRow.holds Try.pinned (OpenSpec.ofChange fnExactIsWordWrong)

/-- 'laws.FnExactRotateWord': WHATEVER THE INPUT: true; the input reads as it did. -/
def fnExactRotateWordSpec : ChangeSpec := { name := "fnExactRotateWord", fn := fun _ => fun
  | [d1, d2] => { results := [.lit (.bool true)], args := [d1, d2] }
  | _ => none }
def fnExactRotateWordRow : OpenClaim := { program := "ytjghjlhjeibfoaa", sum := "45e8b6e246f2ee9d3954152dd0976d3a86a458f5814ad78941796fc9895059be", func := "loop.example/g01104/laws.FnExactRotateWord", spec := "fnExactRotateWord", apart := false }
def FnExactRotateWordSaid : Prop := fnExactRotateWordRow.holds Try.pinned (OpenSpec.ofChange fnExactRotateWordSpec)

/-- ITS FALSE NEIGHBOUR: 'it returns false'. Refute it at one input. -/
def fnExactRotateWordWrong : ChangeSpec := { name := "fnExactRotateWord", fn := fun _ => fun
  | [d1, d2] => { results := [.lit (.bool false)], args := [d1, d2] }
  | _ => none }
def FnExactRotateWordWrongFalsely : Prop := fnExactRotateWordRow.holds Try.pinned (OpenSpec.ofChange fnExactRotateWordWrong)

/-- 'laws.FnExactLeastRotation': WHATEVER THE INPUT: true; the input reads as it did. -/
def fnExactLeastRotationSpec : ChangeSpec := { name := "fnExactLeastRotation", fn := fun _ => fun
  | [d] => { results := [.lit (.bool true)], args := [d] }
  | _ => none }
def fnExactLeastRotationRow : OpenClaim := { program := "ytjghjlhjeibfoaa", sum := "45e8b6e246f2ee9d3954152dd0976d3a86a458f5814ad78941796fc9895059be", func := "loop.example/g01104/laws.FnExactLeastRotation", spec := "fnExactLeastRotation", apart := false }
def FnExactLeastRotationSaid : Prop := fnExactLeastRotationRow.holds Try.pinned (OpenSpec.ofChange fnExactLeastRotationSpec)

/-- ITS FALSE NEIGHBOUR: 'it returns false'. Refute it at one input. -/
def fnExactLeastRotationWrong : ChangeSpec := { name := "fnExactLeastRotation", fn := fun _ => fun
  | [d] => { results := [.lit (.bool false)], args := [d] }
  | _ => none }
def FnExactLeastRotationWrongFalsely : Prop := fnExactLeastRotationRow.holds Try.pinned (OpenSpec.ofChange fnExactLeastRotationWrong)

/-- 'laws.FnExactRootLength': WHATEVER THE INPUT: true; the input reads as it did. -/
def fnExactRootLengthSpec : ChangeSpec := { name := "fnExactRootLength", fn := fun _ => fun
  | [d] => { results := [.lit (.bool true)], args := [d] }
  | _ => none }
def fnExactRootLengthRow : OpenClaim := { program := "ytjghjlhjeibfoaa", sum := "45e8b6e246f2ee9d3954152dd0976d3a86a458f5814ad78941796fc9895059be", func := "loop.example/g01104/laws.FnExactRootLength", spec := "fnExactRootLength", apart := false }
def FnExactRootLengthSaid : Prop := fnExactRootLengthRow.holds Try.pinned (OpenSpec.ofChange fnExactRootLengthSpec)

/-- ITS FALSE NEIGHBOUR: 'it returns false'. Refute it at one input. -/
def fnExactRootLengthWrong : ChangeSpec := { name := "fnExactRootLength", fn := fun _ => fun
  | [d] => { results := [.lit (.bool false)], args := [d] }
  | _ => none }
def FnExactRootLengthWrongFalsely : Prop := fnExactRootLengthRow.holds Try.pinned (OpenSpec.ofChange fnExactRootLengthWrong)

/-- 'laws.FnExactIsNecklace': WHATEVER THE INPUT: true; the input reads as it did. -/
def fnExactIsNecklaceSpec : ChangeSpec := { name := "fnExactIsNecklace", fn := fun _ => fun
  | [d] => { results := [.lit (.bool true)], args := [d] }
  | _ => none }
def fnExactIsNecklaceRow : OpenClaim := { program := "ytjghjlhjeibfoaa", sum := "45e8b6e246f2ee9d3954152dd0976d3a86a458f5814ad78941796fc9895059be", func := "loop.example/g01104/laws.FnExactIsNecklace", spec := "fnExactIsNecklace", apart := false }
def FnExactIsNecklaceSaid : Prop := fnExactIsNecklaceRow.holds Try.pinned (OpenSpec.ofChange fnExactIsNecklaceSpec)

/-- ITS FALSE NEIGHBOUR: 'it returns false'. Refute it at one input. -/
def fnExactIsNecklaceWrong : ChangeSpec := { name := "fnExactIsNecklace", fn := fun _ => fun
  | [d] => { results := [.lit (.bool false)], args := [d] }
  | _ => none }
def FnExactIsNecklaceWrongFalsely : Prop := fnExactIsNecklaceRow.holds Try.pinned (OpenSpec.ofChange fnExactIsNecklaceWrong)

/-- 'laws.FnExactIsLyndon': WHATEVER THE INPUT: true; the input reads as it did. -/
def fnExactIsLyndonSpec : ChangeSpec := { name := "fnExactIsLyndon", fn := fun _ => fun
  | [d] => { results := [.lit (.bool true)], args := [d] }
  | _ => none }
def fnExactIsLyndonRow : OpenClaim := { program := "ytjghjlhjeibfoaa", sum := "45e8b6e246f2ee9d3954152dd0976d3a86a458f5814ad78941796fc9895059be", func := "loop.example/g01104/laws.FnExactIsLyndon", spec := "fnExactIsLyndon", apart := false }
def FnExactIsLyndonSaid : Prop := fnExactIsLyndonRow.holds Try.pinned (OpenSpec.ofChange fnExactIsLyndonSpec)

/-- ITS FALSE NEIGHBOUR: 'it returns false'. Refute it at one input. -/
def fnExactIsLyndonWrong : ChangeSpec := { name := "fnExactIsLyndon", fn := fun _ => fun
  | [d] => { results := [.lit (.bool false)], args := [d] }
  | _ => none }
def FnExactIsLyndonWrongFalsely : Prop := fnExactIsLyndonRow.holds Try.pinned (OpenSpec.ofChange fnExactIsLyndonWrong)

/-- 'laws.FnExactIsBracelet': WHATEVER THE INPUT: true; the input reads as it did. -/
def fnExactIsBraceletSpec : ChangeSpec := { name := "fnExactIsBracelet", fn := fun _ => fun
  | [d] => { results := [.lit (.bool true)], args := [d] }
  | _ => none }
def fnExactIsBraceletRow : OpenClaim := { program := "ytjghjlhjeibfoaa", sum := "45e8b6e246f2ee9d3954152dd0976d3a86a458f5814ad78941796fc9895059be", func := "loop.example/g01104/laws.FnExactIsBracelet", spec := "fnExactIsBracelet", apart := false }
def FnExactIsBraceletSaid : Prop := fnExactIsBraceletRow.holds Try.pinned (OpenSpec.ofChange fnExactIsBraceletSpec)

/-- ITS FALSE NEIGHBOUR: 'it returns false'. Refute it at one input. -/
def fnExactIsBraceletWrong : ChangeSpec := { name := "fnExactIsBracelet", fn := fun _ => fun
  | [d] => { results := [.lit (.bool false)], args := [d] }
  | _ => none }
def FnExactIsBraceletWrongFalsely : Prop := fnExactIsBraceletRow.holds Try.pinned (OpenSpec.ofChange fnExactIsBraceletWrong)

/-- 'laws.FnExactLyndonFactors': WHATEVER THE INPUT: true; the input reads as it did. -/
def fnExactLyndonFactorsSpec : ChangeSpec := { name := "fnExactLyndonFactors", fn := fun _ => fun
  | [d] => { results := [.lit (.bool true)], args := [d] }
  | _ => none }
def fnExactLyndonFactorsRow : OpenClaim := { program := "ytjghjlhjeibfoaa", sum := "45e8b6e246f2ee9d3954152dd0976d3a86a458f5814ad78941796fc9895059be", func := "loop.example/g01104/laws.FnExactLyndonFactors", spec := "fnExactLyndonFactors", apart := false }
def FnExactLyndonFactorsSaid : Prop := fnExactLyndonFactorsRow.holds Try.pinned (OpenSpec.ofChange fnExactLyndonFactorsSpec)

/-- ITS FALSE NEIGHBOUR: 'it returns false'. Refute it at one input. -/
def fnExactLyndonFactorsWrong : ChangeSpec := { name := "fnExactLyndonFactors", fn := fun _ => fun
  | [d] => { results := [.lit (.bool false)], args := [d] }
  | _ => none }
def FnExactLyndonFactorsWrongFalsely : Prop := fnExactLyndonFactorsRow.holds Try.pinned (OpenSpec.ofChange fnExactLyndonFactorsWrong)

/-- 'laws.FnExactStandardFactors': WHATEVER THE INPUT: true; the input reads as it did. -/
def fnExactStandardFactorsSpec : ChangeSpec := { name := "fnExactStandardFactors", fn := fun _ => fun
  | [d] => { results := [.lit (.bool true)], args := [d] }
  | _ => none }
def fnExactStandardFactorsRow : OpenClaim := { program := "ytjghjlhjeibfoaa", sum := "45e8b6e246f2ee9d3954152dd0976d3a86a458f5814ad78941796fc9895059be", func := "loop.example/g01104/laws.FnExactStandardFactors", spec := "fnExactStandardFactors", apart := false }
def FnExactStandardFactorsSaid : Prop := fnExactStandardFactorsRow.holds Try.pinned (OpenSpec.ofChange fnExactStandardFactorsSpec)

/-- ITS FALSE NEIGHBOUR: 'it returns false'. Refute it at one input. -/
def fnExactStandardFactorsWrong : ChangeSpec := { name := "fnExactStandardFactors", fn := fun _ => fun
  | [d] => { results := [.lit (.bool false)], args := [d] }
  | _ => none }
def FnExactStandardFactorsWrongFalsely : Prop := fnExactStandardFactorsRow.holds Try.pinned (OpenSpec.ofChange fnExactStandardFactorsWrong)

/- THE SECOND FORM. 'bulk': how many values and letters a reading holds, each counted each time it is reached (what is shared counts as often as it is met; a slice's spare places count too). A statement '..UptoSaid' is the law's where the arguments, and the package variables that the reading takes, are together of bulk at most 1048576: NARROWER than '..Said'. Prove '..Said' where nothing that the law and all that it calls make is longer than what came in: it says more and counts as full. Else prove '..UptoSaid'. A law counts once. -/
mutual
def uptoBulk {H : Type} : DataW H → Nat
  | .lit (.string bytes) => bytes.length + 1
  | .lit _ => 1
  | .nil => 1
  | .ptr d => uptoBulk d + 1
  | .slice elems spare => uptoBulkAll elems + uptoBulkAll spare + 1
  | .agg parts => uptoBulkAll parts + 1
  | .iface _ d => uptoBulk d + 1
  | .map entries => uptoBulkEntries entries + 1
  | .held _ => 1
def uptoBulkAll {H : Type} : List (DataW H) → Nat
  | [] => 0
  | d :: r => uptoBulk d + uptoBulkAll r
def uptoBulkEntries {H : Type} : List (Lit × DataW H) → Nat
  | [] => 0
  | x :: r => uptoBulkEntry x + uptoBulkEntries r
def uptoBulkEntry {H : Type} : Lit × DataW H → Nat
  | (.string bytes, d) => bytes.length + uptoBulk d + 1
  | (_, d) => uptoBulk d + 1
 end
def uptoSmall : (H : Type) → List (DataW H) → Bool := fun _ ds => decide (uptoBulkAll ds ≤ 1048576)
def OpenSpec.upto (s : _root_.Go.ChangeSpec) : _root_.Go.OpenSpec := { _root_.Go.OpenSpec.ofChange s with cond := some uptoSmall }

/-- 'laws.FnExactIsWord', WHERE WHAT IT READS IS OF BULK AT MOST 1048576: true; the input reads as it did. -/
def fnExactIsWordUptoRow : OpenClaim := { program := "ytjghjlhjeibfoaa", sum := "45e8b6e246f2ee9d3954152dd0976d3a86a458f5814ad78941796fc9895059be", func := "loop.example/g01104/laws.FnExactIsWord", spec := "fnExactIsWord", apart := false, narrowed := true }
def FnExactIsWordUptoSaid : Prop := fnExactIsWordUptoRow.holds Try.pinned (OpenSpec.upto fnExactIsWordSpec)

/-- 'laws.FnExactRotateWord', WHERE WHAT IT READS IS OF BULK AT MOST 1048576: true; the input reads as it did. -/
def fnExactRotateWordUptoRow : OpenClaim := { program := "ytjghjlhjeibfoaa", sum := "45e8b6e246f2ee9d3954152dd0976d3a86a458f5814ad78941796fc9895059be", func := "loop.example/g01104/laws.FnExactRotateWord", spec := "fnExactRotateWord", apart := false, narrowed := true }
def FnExactRotateWordUptoSaid : Prop := fnExactRotateWordUptoRow.holds Try.pinned (OpenSpec.upto fnExactRotateWordSpec)

/-- 'laws.FnExactLeastRotation', WHERE WHAT IT READS IS OF BULK AT MOST 1048576: true; the input reads as it did. -/
def fnExactLeastRotationUptoRow : OpenClaim := { program := "ytjghjlhjeibfoaa", sum := "45e8b6e246f2ee9d3954152dd0976d3a86a458f5814ad78941796fc9895059be", func := "loop.example/g01104/laws.FnExactLeastRotation", spec := "fnExactLeastRotation", apart := false, narrowed := true }
def FnExactLeastRotationUptoSaid : Prop := fnExactLeastRotationUptoRow.holds Try.pinned (OpenSpec.upto fnExactLeastRotationSpec)

/-- 'laws.FnExactRootLength', WHERE WHAT IT READS IS OF BULK AT MOST 1048576: true; the input reads as it did. -/
def fnExactRootLengthUptoRow : OpenClaim := { program := "ytjghjlhjeibfoaa", sum := "45e8b6e246f2ee9d3954152dd0976d3a86a458f5814ad78941796fc9895059be", func := "loop.example/g01104/laws.FnExactRootLength", spec := "fnExactRootLength", apart := false, narrowed := true }
def FnExactRootLengthUptoSaid : Prop := fnExactRootLengthUptoRow.holds Try.pinned (OpenSpec.upto fnExactRootLengthSpec)

/-- 'laws.FnExactIsNecklace', WHERE WHAT IT READS IS OF BULK AT MOST 1048576: true; the input reads as it did. -/
def fnExactIsNecklaceUptoRow : OpenClaim := { program := "ytjghjlhjeibfoaa", sum := "45e8b6e246f2ee9d3954152dd0976d3a86a458f5814ad78941796fc9895059be", func := "loop.example/g01104/laws.FnExactIsNecklace", spec := "fnExactIsNecklace", apart := false, narrowed := true }
def FnExactIsNecklaceUptoSaid : Prop := fnExactIsNecklaceUptoRow.holds Try.pinned (OpenSpec.upto fnExactIsNecklaceSpec)

/-- 'laws.FnExactIsLyndon', WHERE WHAT IT READS IS OF BULK AT MOST 1048576: true; the input reads as it did. -/
def fnExactIsLyndonUptoRow : OpenClaim := { program := "ytjghjlhjeibfoaa", sum := "45e8b6e246f2ee9d3954152dd0976d3a86a458f5814ad78941796fc9895059be", func := "loop.example/g01104/laws.FnExactIsLyndon", spec := "fnExactIsLyndon", apart := false, narrowed := true }
def FnExactIsLyndonUptoSaid : Prop := fnExactIsLyndonUptoRow.holds Try.pinned (OpenSpec.upto fnExactIsLyndonSpec)

/-- 'laws.FnExactIsBracelet', WHERE WHAT IT READS IS OF BULK AT MOST 1048576: true; the input reads as it did. -/
def fnExactIsBraceletUptoRow : OpenClaim := { program := "ytjghjlhjeibfoaa", sum := "45e8b6e246f2ee9d3954152dd0976d3a86a458f5814ad78941796fc9895059be", func := "loop.example/g01104/laws.FnExactIsBracelet", spec := "fnExactIsBracelet", apart := false, narrowed := true }
def FnExactIsBraceletUptoSaid : Prop := fnExactIsBraceletUptoRow.holds Try.pinned (OpenSpec.upto fnExactIsBraceletSpec)

/-- 'laws.FnExactLyndonFactors', WHERE WHAT IT READS IS OF BULK AT MOST 1048576: true; the input reads as it did. -/
def fnExactLyndonFactorsUptoRow : OpenClaim := { program := "ytjghjlhjeibfoaa", sum := "45e8b6e246f2ee9d3954152dd0976d3a86a458f5814ad78941796fc9895059be", func := "loop.example/g01104/laws.FnExactLyndonFactors", spec := "fnExactLyndonFactors", apart := false, narrowed := true }
def FnExactLyndonFactorsUptoSaid : Prop := fnExactLyndonFactorsUptoRow.holds Try.pinned (OpenSpec.upto fnExactLyndonFactorsSpec)

/-- 'laws.FnExactStandardFactors', WHERE WHAT IT READS IS OF BULK AT MOST 1048576: true; the input reads as it did. -/
def fnExactStandardFactorsUptoRow : OpenClaim := { program := "ytjghjlhjeibfoaa", sum := "45e8b6e246f2ee9d3954152dd0976d3a86a458f5814ad78941796fc9895059be", func := "loop.example/g01104/laws.FnExactStandardFactors", spec := "fnExactStandardFactors", apart := false, narrowed := true }
def FnExactStandardFactorsUptoSaid : Prop := fnExactStandardFactorsUptoRow.holds Try.pinned (OpenSpec.upto fnExactStandardFactorsSpec)

end Rows
end Go.Proofs.Ytjghjlhjeibfoaa
