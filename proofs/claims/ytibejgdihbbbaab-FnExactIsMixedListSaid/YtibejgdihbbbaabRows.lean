/-
  No cell of these rows narrows 'for every input' (looked for: loops, veiled, ifaces, maps, wideKeys, modest, calm, conditions, laid).
  DERIVED. THE GIVEN ROWS OF THIS SEAT. 7 by the template 'for every input the law returns true; each argument reads behind the call as it read before'; 0 by the template 'total and deterministic' (their statements: YtibejgdihbbbaabTotals.lean).
  GIVEN WITH THE SEED: the statements are not yours to turn. If you find one false, say at which input.
  Laid BY PROGRAM, IN A SANDBOX (cutbox-rows.mjs): the forced cells as the released guide's own fill.sh prints them over the translation f04372517311a59a… (all of the seat's roots in one cut). By AI agents, Wed Nov 11 2026. No macro, syntax, notation, axiom, sorry.
-/
import Derived.Test.YtibejgdihbbbaabChecked
import GoSem.Claim
import GoSem.ClaimJoined
import GoSem.ClaimMapViews
import Derived.JoinedTies
import Derived.KernelRfl
namespace Go.Proofs.Ytibejgdihbbbaab
/- THE CELL 'sum', in the pinned program and in every row, IS THE sha256 OF THE DUMP (.gsa) THAT YtibejgdihbbbaabProg.lean LOADS. Nothing in Lean hashes anything: it is a label: what it is worth is what the hold of that sum in a sandbox is worth. -/
noncomputable def Try.pinned : Pinned := { name := "ytibejgdihbbbaab", sum := "f04372517311a59a6769deef7d1521e3451fb6eab532060ddf3dc3b778cc84ef", checked := Try.checked }
namespace Rows
def none {H : Type} : Left H := { results := [], args := [] }

/-- 'laws.FnExactFlipBits': WHATEVER THE INPUT: true; the input reads as it did. -/
def fnExactFlipBitsSpec : ChangeSpec := { name := "fnExactFlipBits", fn := fun _ => fun
  | [d1, d2, d3] => { results := [.lit (.bool true)], args := [d1, d2, d3] }
  | _ => none }
def fnExactFlipBitsRow : OpenClaim := { program := "ytibejgdihbbbaab", sum := "f04372517311a59a6769deef7d1521e3451fb6eab532060ddf3dc3b778cc84ef", func := "loop.example/g01104/laws.FnExactFlipBits", spec := "fnExactFlipBits", apart := false }
def FnExactFlipBitsSaid : Prop := fnExactFlipBitsRow.holds Try.pinned (OpenSpec.ofChange fnExactFlipBitsSpec)

/-- ITS FALSE NEIGHBOUR: 'it returns false'. Refute it at one input. -/
def fnExactFlipBitsWrong : ChangeSpec := { name := "fnExactFlipBits", fn := fun _ => fun
  | [d1, d2, d3] => { results := [.lit (.bool false)], args := [d1, d2, d3] }
  | _ => none }
def FnExactFlipBitsWrongFalsely : Prop := fnExactFlipBitsRow.holds Try.pinned (OpenSpec.ofChange fnExactFlipBitsWrong)

/-- 'laws.FnExactTurnList': WHATEVER THE INPUT: true; the input reads as it did. -/
def fnExactTurnListSpec : ChangeSpec := { name := "fnExactTurnList", fn := fun _ => fun
  | [d1, d2, d3] => { results := [.lit (.bool true)], args := [d1, d2, d3] }
  | _ => none }
def fnExactTurnListRow : OpenClaim := { program := "ytibejgdihbbbaab", sum := "f04372517311a59a6769deef7d1521e3451fb6eab532060ddf3dc3b778cc84ef", func := "loop.example/g01104/laws.FnExactTurnList", spec := "fnExactTurnList", apart := false }
def FnExactTurnListSaid : Prop := fnExactTurnListRow.holds Try.pinned (OpenSpec.ofChange fnExactTurnListSpec)

/-- ITS FALSE NEIGHBOUR: 'it returns false'. Refute it at one input. -/
def fnExactTurnListWrong : ChangeSpec := { name := "fnExactTurnList", fn := fun _ => fun
  | [d1, d2, d3] => { results := [.lit (.bool false)], args := [d1, d2, d3] }
  | _ => none }
def FnExactTurnListWrongFalsely : Prop := fnExactTurnListRow.holds Try.pinned (OpenSpec.ofChange fnExactTurnListWrong)

/-- 'laws.FnExactHalvesOf': WHATEVER THE INPUT: true; the input reads as it did. -/
def fnExactHalvesOfSpec : ChangeSpec := { name := "fnExactHalvesOf", fn := fun _ => fun
  | [d1, d2] => { results := [.lit (.bool true)], args := [d1, d2] }
  | _ => none }
def fnExactHalvesOfRow : OpenClaim := { program := "ytibejgdihbbbaab", sum := "f04372517311a59a6769deef7d1521e3451fb6eab532060ddf3dc3b778cc84ef", func := "loop.example/g01104/laws.FnExactHalvesOf", spec := "fnExactHalvesOf", apart := false }
def FnExactHalvesOfSaid : Prop := fnExactHalvesOfRow.holds Try.pinned (OpenSpec.ofChange fnExactHalvesOfSpec)

/-- ITS FALSE NEIGHBOUR: 'it returns false'. Refute it at one input. -/
def fnExactHalvesOfWrong : ChangeSpec := { name := "fnExactHalvesOf", fn := fun _ => fun
  | [d1, d2] => { results := [.lit (.bool false)], args := [d1, d2] }
  | _ => none }
def FnExactHalvesOfWrongFalsely : Prop := fnExactHalvesOfRow.holds Try.pinned (OpenSpec.ofChange fnExactHalvesOfWrong)

/-- 'laws.FnExactMixedAt': WHATEVER THE INPUT: true; the input reads as it did. -/
def fnExactMixedAtSpec : ChangeSpec := { name := "fnExactMixedAt", fn := fun _ => fun
  | [d1, d2] => { results := [.lit (.bool true)], args := [d1, d2] }
  | _ => none }
def fnExactMixedAtRow : OpenClaim := { program := "ytibejgdihbbbaab", sum := "f04372517311a59a6769deef7d1521e3451fb6eab532060ddf3dc3b778cc84ef", func := "loop.example/g01104/laws.FnExactMixedAt", spec := "fnExactMixedAt", recurses := true, apart := false }
def FnExactMixedAtSaid : Prop := fnExactMixedAtRow.holds Try.pinned (OpenSpec.ofChange fnExactMixedAtSpec)

/-- ITS FALSE NEIGHBOUR: 'it returns false'. Refute it at one input. -/
def fnExactMixedAtWrong : ChangeSpec := { name := "fnExactMixedAt", fn := fun _ => fun
  | [d1, d2] => { results := [.lit (.bool false)], args := [d1, d2] }
  | _ => none }
def FnExactMixedAtWrongFalsely : Prop := fnExactMixedAtRow.holds Try.pinned (OpenSpec.ofChange fnExactMixedAtWrong)

/-- 'laws.FnExactMixedRank': WHATEVER THE INPUT: true; the input reads as it did. -/
def fnExactMixedRankSpec : ChangeSpec := { name := "fnExactMixedRank", fn := fun _ => fun
  | [d1, d2] => { results := [.lit (.bool true)], args := [d1, d2] }
  | _ => none }
def fnExactMixedRankRow : OpenClaim := { program := "ytibejgdihbbbaab", sum := "f04372517311a59a6769deef7d1521e3451fb6eab532060ddf3dc3b778cc84ef", func := "loop.example/g01104/laws.FnExactMixedRank", spec := "fnExactMixedRank", recurses := true, apart := false }
def FnExactMixedRankSaid : Prop := fnExactMixedRankRow.holds Try.pinned (OpenSpec.ofChange fnExactMixedRankSpec)

/-- ITS FALSE NEIGHBOUR: 'it returns false'. Refute it at one input. -/
def fnExactMixedRankWrong : ChangeSpec := { name := "fnExactMixedRank", fn := fun _ => fun
  | [d1, d2] => { results := [.lit (.bool false)], args := [d1, d2] }
  | _ => none }
def FnExactMixedRankWrongFalsely : Prop := fnExactMixedRankRow.holds Try.pinned (OpenSpec.ofChange fnExactMixedRankWrong)

/-- 'laws.FnExactNextMixed': WHATEVER THE INPUT: true; the input reads as it did. -/
def fnExactNextMixedSpec : ChangeSpec := { name := "fnExactNextMixed", fn := fun _ => fun
  | [d1, d2] => { results := [.lit (.bool true)], args := [d1, d2] }
  | _ => none }
def fnExactNextMixedRow : OpenClaim := { program := "ytibejgdihbbbaab", sum := "f04372517311a59a6769deef7d1521e3451fb6eab532060ddf3dc3b778cc84ef", func := "loop.example/g01104/laws.FnExactNextMixed", spec := "fnExactNextMixed", recurses := true, apart := false }
def FnExactNextMixedSaid : Prop := fnExactNextMixedRow.holds Try.pinned (OpenSpec.ofChange fnExactNextMixedSpec)

/-- ITS FALSE NEIGHBOUR: 'it returns false'. Refute it at one input. -/
def fnExactNextMixedWrong : ChangeSpec := { name := "fnExactNextMixed", fn := fun _ => fun
  | [d1, d2] => { results := [.lit (.bool false)], args := [d1, d2] }
  | _ => none }
def FnExactNextMixedWrongFalsely : Prop := fnExactNextMixedRow.holds Try.pinned (OpenSpec.ofChange fnExactNextMixedWrong)

/-- 'laws.FnExactIsMixedList': WHATEVER THE INPUT: true; the input reads as it did. -/
def fnExactIsMixedListSpec : ChangeSpec := { name := "fnExactIsMixedList", fn := fun _ => fun
  | [d1, d2] => { results := [.lit (.bool true)], args := [d1, d2] }
  | _ => none }
def fnExactIsMixedListRow : OpenClaim := { program := "ytibejgdihbbbaab", sum := "f04372517311a59a6769deef7d1521e3451fb6eab532060ddf3dc3b778cc84ef", func := "loop.example/g01104/laws.FnExactIsMixedList", spec := "fnExactIsMixedList", apart := false }
def FnExactIsMixedListSaid : Prop := fnExactIsMixedListRow.holds Try.pinned (OpenSpec.ofChange fnExactIsMixedListSpec)

/-- ITS FALSE NEIGHBOUR: 'it returns false'. Refute it at one input. -/
def fnExactIsMixedListWrong : ChangeSpec := { name := "fnExactIsMixedList", fn := fun _ => fun
  | [d1, d2] => { results := [.lit (.bool false)], args := [d1, d2] }
  | _ => none }
def FnExactIsMixedListWrongFalsely : Prop := fnExactIsMixedListRow.holds Try.pinned (OpenSpec.ofChange fnExactIsMixedListWrong)

/- THE SECOND FORM. 'bulk': how many values and letters a reading holds, each counted each time it is reached (what is shared counts as often as it is met; a slice's spare places count too). A statement '..UptoSaid' is the law's where the arguments, and the package variables that the reading takes, are together of bulk at most 1048576: NARROWER than '..Said'. Prove '..Said' where nothing that the law and all that it calls make is longer than what came in: it says more and counts as full. Else prove '..UptoSaid'. A law counts once. -/
mutual
def uptoBulk {H : Type} : DataW H → Nat
  | .lit (.string bytes) => bytes.length + 1
  | .lit _ => 1
  | .nil => 1
  | .ptr d => uptoBulk d + 1
  | .slice elems spare => uptoBulkAll elems + uptoBulkAll spare + 1
  | .agg parts => uptoBulkAll parts + 1
  | .iface _ d => uptoBulk d + 1
  | .map entries => uptoBulkEntries entries + 1
  | .held _ => 1
def uptoBulkAll {H : Type} : List (DataW H) → Nat
  | [] => 0
  | d :: r => uptoBulk d + uptoBulkAll r
def uptoBulkEntries {H : Type} : List (Lit × DataW H) → Nat
  | [] => 0
  | x :: r => uptoBulkEntry x + uptoBulkEntries r
def uptoBulkEntry {H : Type} : Lit × DataW H → Nat
  | (.string bytes, d) => bytes.length + uptoBulk d + 1
  | (_, d) => uptoBulk d + 1
 end
def uptoSmall : (H : Type) → List (DataW H) → Bool := fun _ ds => decide (uptoBulkAll ds ≤ 1048576)
def OpenSpec.upto (s : _root_.Go.ChangeSpec) : _root_.Go.OpenSpec := { _root_.Go.OpenSpec.ofChange s with cond := some uptoSmall }

/-- 'laws.FnExactFlipBits', WHERE WHAT IT READS IS OF BULK AT MOST 1048576: true; the input reads as it did. -/
def fnExactFlipBitsUptoRow : OpenClaim := { program := "ytibejgdihbbbaab", sum := "f04372517311a59a6769deef7d1521e3451fb6eab532060ddf3dc3b778cc84ef", func := "loop.example/g01104/laws.FnExactFlipBits", spec := "fnExactFlipBits", apart := false, narrowed := true }
def FnExactFlipBitsUptoSaid : Prop := fnExactFlipBitsUptoRow.holds Try.pinned (OpenSpec.upto fnExactFlipBitsSpec)

/-- 'laws.FnExactTurnList', WHERE WHAT IT READS IS OF BULK AT MOST 1048576: true; the input reads as it did. -/
def fnExactTurnListUptoRow : OpenClaim := { program := "ytibejgdihbbbaab", sum := "f04372517311a59a6769deef7d1521e3451fb6eab532060ddf3dc3b778cc84ef", func := "loop.example/g01104/laws.FnExactTurnList", spec := "fnExactTurnList", apart := false, narrowed := true }
def FnExactTurnListUptoSaid : Prop := fnExactTurnListUptoRow.holds Try.pinned (OpenSpec.upto fnExactTurnListSpec)

/-- 'laws.FnExactHalvesOf', WHERE WHAT IT READS IS OF BULK AT MOST 1048576: true; the input reads as it did. -/
def fnExactHalvesOfUptoRow : OpenClaim := { program := "ytibejgdihbbbaab", sum := "f04372517311a59a6769deef7d1521e3451fb6eab532060ddf3dc3b778cc84ef", func := "loop.example/g01104/laws.FnExactHalvesOf", spec := "fnExactHalvesOf", apart := false, narrowed := true }
def FnExactHalvesOfUptoSaid : Prop := fnExactHalvesOfUptoRow.holds Try.pinned (OpenSpec.upto fnExactHalvesOfSpec)

/-- 'laws.FnExactMixedAt', WHERE WHAT IT READS IS OF BULK AT MOST 1048576: true; the input reads as it did. -/
def fnExactMixedAtUptoRow : OpenClaim := { program := "ytibejgdihbbbaab", sum := "f04372517311a59a6769deef7d1521e3451fb6eab532060ddf3dc3b778cc84ef", func := "loop.example/g01104/laws.FnExactMixedAt", spec := "fnExactMixedAt", recurses := true, apart := false, narrowed := true }
def FnExactMixedAtUptoSaid : Prop := fnExactMixedAtUptoRow.holds Try.pinned (OpenSpec.upto fnExactMixedAtSpec)

/-- 'laws.FnExactMixedRank', WHERE WHAT IT READS IS OF BULK AT MOST 1048576: true; the input reads as it did. -/
def fnExactMixedRankUptoRow : OpenClaim := { program := "ytibejgdihbbbaab", sum := "f04372517311a59a6769deef7d1521e3451fb6eab532060ddf3dc3b778cc84ef", func := "loop.example/g01104/laws.FnExactMixedRank", spec := "fnExactMixedRank", recurses := true, apart := false, narrowed := true }
def FnExactMixedRankUptoSaid : Prop := fnExactMixedRankUptoRow.holds Try.pinned (OpenSpec.upto fnExactMixedRankSpec)

/-- 'laws.FnExactNextMixed', WHERE WHAT IT READS IS OF BULK AT MOST 1048576: true; the input reads as it did. -/
def fnExactNextMixedUptoRow : OpenClaim := { program := "ytibejgdihbbbaab", sum := "f04372517311a59a6769deef7d1521e3451fb6eab532060ddf3dc3b778cc84ef", func := "loop.example/g01104/laws.FnExactNextMixed", spec := "fnExactNextMixed", recurses := true, apart := false, narrowed := true }
def FnExactNextMixedUptoSaid : Prop := fnExactNextMixedUptoRow.holds Try.pinned (OpenSpec.upto fnExactNextMixedSpec)

/-- 'laws.FnExactIsMixedList', WHERE WHAT IT READS IS OF BULK AT MOST 1048576: true; the input reads as it did. -/
def fnExactIsMixedListUptoRow : OpenClaim := { program := "ytibejgdihbbbaab", sum := "f04372517311a59a6769deef7d1521e3451fb6eab532060ddf3dc3b778cc84ef", func := "loop.example/g01104/laws.FnExactIsMixedList", spec := "fnExactIsMixedList", apart := false, narrowed := true }
def FnExactIsMixedListUptoSaid : Prop := fnExactIsMixedListUptoRow.holds Try.pinned (OpenSpec.upto fnExactIsMixedListSpec)

end Rows
end Go.Proofs.Ytibejgdihbbbaab
