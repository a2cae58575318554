/-
  No cell of these rows narrows 'for every input' (looked for: loops, veiled, ifaces, maps, wideKeys, modest, calm, conditions, laid).
  DERIVED. THE GIVEN ROWS OF THIS SEAT. 11 by the template 'for every input the law returns true; each argument reads behind the call as it read before'; 0 by the template 'total and deterministic' (their statements: YtlkhkecnghpokabTotals.lean).
  GIVEN WITH THE SEED: the statements are not yours to turn. If you find one false, say at which input.
  Laid BY PROGRAM, IN A SANDBOX (cutbox-rows.mjs): the forced cells as the released guide's own fill.sh prints them over the translation 49b51ca2e220c3cc… (all of the seat's roots in one cut). By AI agents, Wed Nov 11 2026. No macro, syntax, notation, axiom, sorry.
-/
import Derived.Test.YtlkhkecnghpokabChecked
import GoSem.Claim
import GoSem.ClaimJoined
import GoSem.ClaimMapViews
import Derived.JoinedTies
import Derived.KernelRfl
namespace Go.Proofs.Ytlkhkecnghpokab
/- THE CELL 'sum', in the pinned program and in every row, IS THE sha256 OF THE DUMP (.gsa) THAT YtlkhkecnghpokabProg.lean LOADS. Nothing in Lean hashes anything: it is a label: what it is worth is what the hold of that sum in a sandbox is worth. -/
noncomputable def Try.pinned : Pinned := { name := "ytlkhkecnghpokab", sum := "49b51ca2e220c3cc2d561441c51127c939e8e1b4c9e8b09bc7412c4ecf88e65d", checked := Try.checked }
namespace Rows
def none {H : Type} : Left H := { results := [], args := [] }

/-- 'laws.FnExactIsSuper': WHATEVER THE INPUT: true; the input reads as it did. -/
def fnExactIsSuperSpec : ChangeSpec := { name := "fnExactIsSuper", fn := fun _ => fun
  | [d1, d2] => { results := [.lit (.bool true)], args := [d1, d2] }
  | _ => none }
def fnExactIsSuperRow : OpenClaim := { program := "ytlkhkecnghpokab", sum := "49b51ca2e220c3cc2d561441c51127c939e8e1b4c9e8b09bc7412c4ecf88e65d", func := "loop.example/g01104/laws.FnExactIsSuper", spec := "fnExactIsSuper", unfollowed := true, recurses := true, apart := false }
def FnExactIsSuperSaid : Prop := fnExactIsSuperRow.holds Try.pinned (OpenSpec.ofChange fnExactIsSuperSpec)

/-- ITS FALSE NEIGHBOUR: 'it returns false'. Refute it at one input. -/
def fnExactIsSuperWrong : ChangeSpec := { name := "fnExactIsSuper", fn := fun _ => fun
  | [d1, d2] => { results := [.lit (.bool false)], args := [d1, d2] }
  | _ => none }
def FnExactIsSuperWrongFalsely : Prop := fnExactIsSuperRow.holds Try.pinned (OpenSpec.ofChange fnExactIsSuperWrong)

/-- 'laws.FnExactRanksIn': WHATEVER THE INPUT: true; the input reads as it did. -/
def fnExactRanksInSpec : ChangeSpec := { name := "fnExactRanksIn", fn := fun _ => fun
  | [d1, d2] => { results := [.lit (.bool true)], args := [d1, d2] }
  | _ => none }
def fnExactRanksInRow : OpenClaim := { program := "ytlkhkecnghpokab", sum := "49b51ca2e220c3cc2d561441c51127c939e8e1b4c9e8b09bc7412c4ecf88e65d", func := "loop.example/g01104/laws.FnExactRanksIn", spec := "fnExactRanksIn", unfollowed := true, recurses := true, apart := false }
def FnExactRanksInSaid : Prop := fnExactRanksInRow.holds Try.pinned (OpenSpec.ofChange fnExactRanksInSpec)

/-- ITS FALSE NEIGHBOUR: 'it returns false'. Refute it at one input. -/
def fnExactRanksInWrong : ChangeSpec := { name := "fnExactRanksIn", fn := fun _ => fun
  | [d1, d2] => { results := [.lit (.bool false)], args := [d1, d2] }
  | _ => none }
def FnExactRanksInWrongFalsely : Prop := fnExactRanksInRow.holds Try.pinned (OpenSpec.ofChange fnExactRanksInWrong)

/-- 'laws.FnExactWastedIn': WHATEVER THE INPUT: true; the input reads as it did. -/
def fnExactWastedInSpec : ChangeSpec := { name := "fnExactWastedIn", fn := fun _ => fun
  | [d1, d2] => { results := [.lit (.bool true)], args := [d1, d2] }
  | _ => none }
def fnExactWastedInRow : OpenClaim := { program := "ytlkhkecnghpokab", sum := "49b51ca2e220c3cc2d561441c51127c939e8e1b4c9e8b09bc7412c4ecf88e65d", func := "loop.example/g01104/laws.FnExactWastedIn", spec := "fnExactWastedIn", unfollowed := true, recurses := true, apart := false }
def FnExactWastedInSaid : Prop := fnExactWastedInRow.holds Try.pinned (OpenSpec.ofChange fnExactWastedInSpec)

/-- ITS FALSE NEIGHBOUR: 'it returns false'. Refute it at one input. -/
def fnExactWastedInWrong : ChangeSpec := { name := "fnExactWastedIn", fn := fun _ => fun
  | [d1, d2] => { results := [.lit (.bool false)], args := [d1, d2] }
  | _ => none }
def FnExactWastedInWrongFalsely : Prop := fnExactWastedInRow.holds Try.pinned (OpenSpec.ofChange fnExactWastedInWrong)

/-- 'laws.FnExactSuperOf': WHATEVER THE INPUT: true; the input reads as it did. -/
def fnExactSuperOfSpec : ChangeSpec := { name := "fnExactSuperOf", fn := fun _ => fun
  | [d] => { results := [.lit (.bool true)], args := [d] }
  | _ => none }
def fnExactSuperOfRow : OpenClaim := { program := "ytlkhkecnghpokab", sum := "49b51ca2e220c3cc2d561441c51127c939e8e1b4c9e8b09bc7412c4ecf88e65d", func := "loop.example/g01104/laws.FnExactSuperOf", spec := "fnExactSuperOf", unfollowed := true, recurses := true, apart := false }
def FnExactSuperOfSaid : Prop := fnExactSuperOfRow.holds Try.pinned (OpenSpec.ofChange fnExactSuperOfSpec)

/-- ITS FALSE NEIGHBOUR: 'it returns false'. Refute it at one input. -/
def fnExactSuperOfWrong : ChangeSpec := { name := "fnExactSuperOf", fn := fun _ => fun
  | [d] => { results := [.lit (.bool false)], args := [d] }
  | _ => none }
def FnExactSuperOfWrongFalsely : Prop := fnExactSuperOfRow.holds Try.pinned (OpenSpec.ofChange fnExactSuperOfWrong)

/-- 'laws.FnExactSuperLength': WHATEVER THE INPUT: true; the input reads as it did. -/
def fnExactSuperLengthSpec : ChangeSpec := { name := "fnExactSuperLength", fn := fun _ => fun
  | [d] => { results := [.lit (.bool true)], args := [d] }
  | _ => none }
def fnExactSuperLengthRow : OpenClaim := { program := "ytlkhkecnghpokab", sum := "49b51ca2e220c3cc2d561441c51127c939e8e1b4c9e8b09bc7412c4ecf88e65d", func := "loop.example/g01104/laws.FnExactSuperLength", spec := "fnExactSuperLength", recurses := true, apart := false }
def FnExactSuperLengthSaid : Prop := fnExactSuperLengthRow.holds Try.pinned (OpenSpec.ofChange fnExactSuperLengthSpec)

/-- ITS FALSE NEIGHBOUR: 'it returns false'. Refute it at one input. -/
def fnExactSuperLengthWrong : ChangeSpec := { name := "fnExactSuperLength", fn := fun _ => fun
  | [d] => { results := [.lit (.bool false)], args := [d] }
  | _ => none }
def FnExactSuperLengthWrongFalsely : Prop := fnExactSuperLengthRow.holds Try.pinned (OpenSpec.ofChange fnExactSuperLengthWrong)

/-- 'laws.FnExactSuperBound': WHATEVER THE INPUT: true; the input reads as it did. -/
def fnExactSuperBoundSpec : ChangeSpec := { name := "fnExactSuperBound", fn := fun _ => fun
  | [d] => { results := [.lit (.bool true)], args := [d] }
  | _ => none }
def fnExactSuperBoundRow : OpenClaim := { program := "ytlkhkecnghpokab", sum := "49b51ca2e220c3cc2d561441c51127c939e8e1b4c9e8b09bc7412c4ecf88e65d", func := "loop.example/g01104/laws.FnExactSuperBound", spec := "fnExactSuperBound", recurses := true, apart := false }
def FnExactSuperBoundSaid : Prop := fnExactSuperBoundRow.holds Try.pinned (OpenSpec.ofChange fnExactSuperBoundSpec)

/-- ITS FALSE NEIGHBOUR: 'it returns false'. Refute it at one input. -/
def fnExactSuperBoundWrong : ChangeSpec := { name := "fnExactSuperBound", fn := fun _ => fun
  | [d] => { results := [.lit (.bool false)], args := [d] }
  | _ => none }
def FnExactSuperBoundWrongFalsely : Prop := fnExactSuperBoundRow.holds Try.pinned (OpenSpec.ofChange fnExactSuperBoundWrong)

/-- 'laws.FnExactShortestSuper': WHATEVER THE INPUT: true; the input reads as it did. -/
def fnExactShortestSuperSpec : ChangeSpec := { name := "fnExactShortestSuper", fn := fun _ => fun
  | [d] => { results := [.lit (.bool true)], args := [d] }
  | _ => none }
def fnExactShortestSuperRow : OpenClaim := { program := "ytlkhkecnghpokab", sum := "49b51ca2e220c3cc2d561441c51127c939e8e1b4c9e8b09bc7412c4ecf88e65d", func := "loop.example/g01104/laws.FnExactShortestSuper", spec := "fnExactShortestSuper", unfollowed := true, recurses := true, apart := false }
def FnExactShortestSuperSaid : Prop := fnExactShortestSuperRow.holds Try.pinned (OpenSpec.ofChange fnExactShortestSuperSpec)

/-- ITS FALSE NEIGHBOUR: 'it returns false'. Refute it at one input. -/
def fnExactShortestSuperWrong : ChangeSpec := { name := "fnExactShortestSuper", fn := fun _ => fun
  | [d] => { results := [.lit (.bool false)], args := [d] }
  | _ => none }
def FnExactShortestSuperWrongFalsely : Prop := fnExactShortestSuperRow.holds Try.pinned (OpenSpec.ofChange fnExactShortestSuperWrong)

/-- 'laws.FnExactIsTorus': WHATEVER THE INPUT: true; the input reads as it did. -/
def fnExactIsTorusSpec : ChangeSpec := { name := "fnExactIsTorus", fn := fun _ => fun
  | [d] => { results := [.lit (.bool true)], args := [d] }
  | _ => none }
def fnExactIsTorusRow : OpenClaim := { program := "ytlkhkecnghpokab", sum := "49b51ca2e220c3cc2d561441c51127c939e8e1b4c9e8b09bc7412c4ecf88e65d", func := "loop.example/g01104/laws.FnExactIsTorus", spec := "fnExactIsTorus", unfollowed := true, recurses := true, apart := false }
def FnExactIsTorusSaid : Prop := fnExactIsTorusRow.holds Try.pinned (OpenSpec.ofChange fnExactIsTorusSpec)

/-- ITS FALSE NEIGHBOUR: 'it returns false'. Refute it at one input. -/
def fnExactIsTorusWrong : ChangeSpec := { name := "fnExactIsTorus", fn := fun _ => fun
  | [d] => { results := [.lit (.bool false)], args := [d] }
  | _ => none }
def FnExactIsTorusWrongFalsely : Prop := fnExactIsTorusRow.holds Try.pinned (OpenSpec.ofChange fnExactIsTorusWrong)

/-- 'laws.FnExactFirstTorus': WHATEVER THE INPUT: true; the input reads as it did. -/
def fnExactFirstTorusSpec : ChangeSpec := { name := "fnExactFirstTorus", fn := fun _ => fun
  | [d] => { results := [.lit (.bool true)], args := [d] }
  | _ => none }
def fnExactFirstTorusRow : OpenClaim := { program := "ytlkhkecnghpokab", sum := "49b51ca2e220c3cc2d561441c51127c939e8e1b4c9e8b09bc7412c4ecf88e65d", func := "loop.example/g01104/laws.FnExactFirstTorus", spec := "fnExactFirstTorus", unfollowed := true, recurses := true, apart := false }
def FnExactFirstTorusSaid : Prop := fnExactFirstTorusRow.holds Try.pinned (OpenSpec.ofChange fnExactFirstTorusSpec)

/-- ITS FALSE NEIGHBOUR: 'it returns false'. Refute it at one input. -/
def fnExactFirstTorusWrong : ChangeSpec := { name := "fnExactFirstTorus", fn := fun _ => fun
  | [d] => { results := [.lit (.bool false)], args := [d] }
  | _ => none }
def FnExactFirstTorusWrongFalsely : Prop := fnExactFirstTorusRow.holds Try.pinned (OpenSpec.ofChange fnExactFirstTorusWrong)

/-- 'laws.FnExactTorusPlace': WHATEVER THE INPUT: true; the input reads as it did. -/
def fnExactTorusPlaceSpec : ChangeSpec := { name := "fnExactTorusPlace", fn := fun _ => fun
  | [d1, d2] => { results := [.lit (.bool true)], args := [d1, d2] }
  | _ => none }
def fnExactTorusPlaceRow : OpenClaim := { program := "ytlkhkecnghpokab", sum := "49b51ca2e220c3cc2d561441c51127c939e8e1b4c9e8b09bc7412c4ecf88e65d", func := "loop.example/g01104/laws.FnExactTorusPlace", spec := "fnExactTorusPlace", unfollowed := true, recurses := true, apart := false }
def FnExactTorusPlaceSaid : Prop := fnExactTorusPlaceRow.holds Try.pinned (OpenSpec.ofChange fnExactTorusPlaceSpec)

/-- ITS FALSE NEIGHBOUR: 'it returns false'. Refute it at one input. -/
def fnExactTorusPlaceWrong : ChangeSpec := { name := "fnExactTorusPlace", fn := fun _ => fun
  | [d1, d2] => { results := [.lit (.bool false)], args := [d1, d2] }
  | _ => none }
def FnExactTorusPlaceWrongFalsely : Prop := fnExactTorusPlaceRow.holds Try.pinned (OpenSpec.ofChange fnExactTorusPlaceWrong)

/-- 'laws.FnExactTurnTorus': WHATEVER THE INPUT: true; the input reads as it did. -/
def fnExactTurnTorusSpec : ChangeSpec := { name := "fnExactTurnTorus", fn := fun _ => fun
  | [d1, d2, d3] => { results := [.lit (.bool true)], args := [d1, d2, d3] }
  | _ => none }
def fnExactTurnTorusRow : OpenClaim := { program := "ytlkhkecnghpokab", sum := "49b51ca2e220c3cc2d561441c51127c939e8e1b4c9e8b09bc7412c4ecf88e65d", func := "loop.example/g01104/laws.FnExactTurnTorus", spec := "fnExactTurnTorus", apart := false }
def FnExactTurnTorusSaid : Prop := fnExactTurnTorusRow.holds Try.pinned (OpenSpec.ofChange fnExactTurnTorusSpec)

/-- ITS FALSE NEIGHBOUR: 'it returns false'. Refute it at one input. -/
def fnExactTurnTorusWrong : ChangeSpec := { name := "fnExactTurnTorus", fn := fun _ => fun
  | [d1, d2, d3] => { results := [.lit (.bool false)], args := [d1, d2, d3] }
  | _ => none }
def FnExactTurnTorusWrongFalsely : Prop := fnExactTurnTorusRow.holds Try.pinned (OpenSpec.ofChange fnExactTurnTorusWrong)

/- THE SECOND FORM. 'bulk': how many values and letters a reading holds, each counted each time it is reached (what is shared counts as often as it is met; a slice's spare places count too). A statement '..UptoSaid' is the law's where the arguments, and the package variables that the reading takes, are together of bulk at most 1048576: NARROWER than '..Said'. Prove '..Said' where nothing that the law and all that it calls make is longer than what came in: it says more and counts as full. Else prove '..UptoSaid'. A law counts once. -/
mutual
def uptoBulk {H : Type} : DataW H → Nat
  | .lit (.string bytes) => bytes.length + 1
  | .lit _ => 1
  | .nil => 1
  | .ptr d => uptoBulk d + 1
  | .slice elems spare => uptoBulkAll elems + uptoBulkAll spare + 1
  | .agg parts => uptoBulkAll parts + 1
  | .iface _ d => uptoBulk d + 1
  | .map entries => uptoBulkEntries entries + 1
  | .held _ => 1
def uptoBulkAll {H : Type} : List (DataW H) → Nat
  | [] => 0
  | d :: r => uptoBulk d + uptoBulkAll r
def uptoBulkEntries {H : Type} : List (Lit × DataW H) → Nat
  | [] => 0
  | x :: r => uptoBulkEntry x + uptoBulkEntries r
def uptoBulkEntry {H : Type} : Lit × DataW H → Nat
  | (.string bytes, d) => bytes.length + uptoBulk d + 1
  | (_, d) => uptoBulk d + 1
 end
def uptoSmall : (H : Type) → List (DataW H) → Bool := fun _ ds => decide (uptoBulkAll ds ≤ 1048576)
def OpenSpec.upto (s : _root_.Go.ChangeSpec) : _root_.Go.OpenSpec := { _root_.Go.OpenSpec.ofChange s with cond := some uptoSmall }

/-- 'laws.FnExactIsSuper', WHERE WHAT IT READS IS OF BULK AT MOST 1048576: true; the input reads as it did. -/
def fnExactIsSuperUptoRow : OpenClaim := { program := "ytlkhkecnghpokab", sum := "49b51ca2e220c3cc2d561441c51127c939e8e1b4c9e8b09bc7412c4ecf88e65d", func := "loop.example/g01104/laws.FnExactIsSuper", spec := "fnExactIsSuper", unfollowed := true, recurses := true, apart := false, narrowed := true }
def FnExactIsSuperUptoSaid : Prop := fnExactIsSuperUptoRow.holds Try.pinned (OpenSpec.upto fnExactIsSuperSpec)

/-- 'laws.FnExactRanksIn', WHERE WHAT IT READS IS OF BULK AT MOST 1048576: true; the input reads as it did. -/
def fnExactRanksInUptoRow : OpenClaim := { program := "ytlkhkecnghpokab", sum := "49b51ca2e220c3cc2d561441c51127c939e8e1b4c9e8b09bc7412c4ecf88e65d", func := "loop.example/g01104/laws.FnExactRanksIn", spec := "fnExactRanksIn", unfollowed := true, recurses := true, apart := false, narrowed := true }
def FnExactRanksInUptoSaid : Prop := fnExactRanksInUptoRow.holds Try.pinned (OpenSpec.upto fnExactRanksInSpec)

/-- 'laws.FnExactWastedIn', WHERE WHAT IT READS IS OF BULK AT MOST 1048576: true; the input reads as it did. -/
def fnExactWastedInUptoRow : OpenClaim := { program := "ytlkhkecnghpokab", sum := "49b51ca2e220c3cc2d561441c51127c939e8e1b4c9e8b09bc7412c4ecf88e65d", func := "loop.example/g01104/laws.FnExactWastedIn", spec := "fnExactWastedIn", unfollowed := true, recurses := true, apart := false, narrowed := true }
def FnExactWastedInUptoSaid : Prop := fnExactWastedInUptoRow.holds Try.pinned (OpenSpec.upto fnExactWastedInSpec)

/-- 'laws.FnExactSuperOf', WHERE WHAT IT READS IS OF BULK AT MOST 1048576: true; the input reads as it did. -/
def fnExactSuperOfUptoRow : OpenClaim := { program := "ytlkhkecnghpokab", sum := "49b51ca2e220c3cc2d561441c51127c939e8e1b4c9e8b09bc7412c4ecf88e65d", func := "loop.example/g01104/laws.FnExactSuperOf", spec := "fnExactSuperOf", unfollowed := true, recurses := true, apart := false, narrowed := true }
def FnExactSuperOfUptoSaid : Prop := fnExactSuperOfUptoRow.holds Try.pinned (OpenSpec.upto fnExactSuperOfSpec)

/-- 'laws.FnExactSuperLength', WHERE WHAT IT READS IS OF BULK AT MOST 1048576: true; the input reads as it did. -/
def fnExactSuperLengthUptoRow : OpenClaim := { program := "ytlkhkecnghpokab", sum := "49b51ca2e220c3cc2d561441c51127c939e8e1b4c9e8b09bc7412c4ecf88e65d", func := "loop.example/g01104/laws.FnExactSuperLength", spec := "fnExactSuperLength", recurses := true, apart := false, narrowed := true }
def FnExactSuperLengthUptoSaid : Prop := fnExactSuperLengthUptoRow.holds Try.pinned (OpenSpec.upto fnExactSuperLengthSpec)

/-- 'laws.FnExactSuperBound', WHERE WHAT IT READS IS OF BULK AT MOST 1048576: true; the input reads as it did. -/
def fnExactSuperBoundUptoRow : OpenClaim := { program := "ytlkhkecnghpokab", sum := "49b51ca2e220c3cc2d561441c51127c939e8e1b4c9e8b09bc7412c4ecf88e65d", func := "loop.example/g01104/laws.FnExactSuperBound", spec := "fnExactSuperBound", recurses := true, apart := false, narrowed := true }
def FnExactSuperBoundUptoSaid : Prop := fnExactSuperBoundUptoRow.holds Try.pinned (OpenSpec.upto fnExactSuperBoundSpec)

/-- 'laws.FnExactShortestSuper', WHERE WHAT IT READS IS OF BULK AT MOST 1048576: true; the input reads as it did. -/
def fnExactShortestSuperUptoRow : OpenClaim := { program := "ytlkhkecnghpokab", sum := "49b51ca2e220c3cc2d561441c51127c939e8e1b4c9e8b09bc7412c4ecf88e65d", func := "loop.example/g01104/laws.FnExactShortestSuper", spec := "fnExactShortestSuper", unfollowed := true, recurses := true, apart := false, narrowed := true }
def FnExactShortestSuperUptoSaid : Prop := fnExactShortestSuperUptoRow.holds Try.pinned (OpenSpec.upto fnExactShortestSuperSpec)

/-- 'laws.FnExactIsTorus', WHERE WHAT IT READS IS OF BULK AT MOST 1048576: true; the input reads as it did. -/
def fnExactIsTorusUptoRow : OpenClaim := { program := "ytlkhkecnghpokab", sum := "49b51ca2e220c3cc2d561441c51127c939e8e1b4c9e8b09bc7412c4ecf88e65d", func := "loop.example/g01104/laws.FnExactIsTorus", spec := "fnExactIsTorus", unfollowed := true, recurses := true, apart := false, narrowed := true }
def FnExactIsTorusUptoSaid : Prop := fnExactIsTorusUptoRow.holds Try.pinned (OpenSpec.upto fnExactIsTorusSpec)

/-- 'laws.FnExactFirstTorus', WHERE WHAT IT READS IS OF BULK AT MOST 1048576: true; the input reads as it did. -/
def fnExactFirstTorusUptoRow : OpenClaim := { program := "ytlkhkecnghpokab", sum := "49b51ca2e220c3cc2d561441c51127c939e8e1b4c9e8b09bc7412c4ecf88e65d", func := "loop.example/g01104/laws.FnExactFirstTorus", spec := "fnExactFirstTorus", unfollowed := true, recurses := true, apart := false, narrowed := true }
def FnExactFirstTorusUptoSaid : Prop := fnExactFirstTorusUptoRow.holds Try.pinned (OpenSpec.upto fnExactFirstTorusSpec)

/-- 'laws.FnExactTorusPlace', WHERE WHAT IT READS IS OF BULK AT MOST 1048576: true; the input reads as it did. -/
def fnExactTorusPlaceUptoRow : OpenClaim := { program := "ytlkhkecnghpokab", sum := "49b51ca2e220c3cc2d561441c51127c939e8e1b4c9e8b09bc7412c4ecf88e65d", func := "loop.example/g01104/laws.FnExactTorusPlace", spec := "fnExactTorusPlace", unfollowed := true, recurses := true, apart := false, narrowed := true }
def FnExactTorusPlaceUptoSaid : Prop := fnExactTorusPlaceUptoRow.holds Try.pinned (OpenSpec.upto fnExactTorusPlaceSpec)

/-- 'laws.FnExactTurnTorus', WHERE WHAT IT READS IS OF BULK AT MOST 1048576: true; the input reads as it did. -/
def fnExactTurnTorusUptoRow : OpenClaim := { program := "ytlkhkecnghpokab", sum := "49b51ca2e220c3cc2d561441c51127c939e8e1b4c9e8b09bc7412c4ecf88e65d", func := "loop.example/g01104/laws.FnExactTurnTorus", spec := "fnExactTurnTorus", apart := false, narrowed := true }
def FnExactTurnTorusUptoSaid : Prop := fnExactTurnTorusUptoRow.holds Try.pinned (OpenSpec.upto fnExactTurnTorusSpec)

end Rows
end Go.Proofs.Ytlkhkecnghpokab
