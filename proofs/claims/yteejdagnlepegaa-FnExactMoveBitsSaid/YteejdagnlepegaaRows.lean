/-
  No cell of these rows narrows 'for every input' (looked for: loops, veiled, ifaces, maps, wideKeys, modest, calm, conditions, laid).
  DERIVED. THE GIVEN ROWS OF THIS SEAT. 7 by the template 'for every input the law returns true; each argument reads behind the call as it read before'; 0 by the template 'total and deterministic' (their statements: YteejdagnlepegaaTotals.lean).
  GIVEN WITH THE SEED: the statements are not yours to turn. If you find one false, say at which input.
  Laid BY PROGRAM, IN A SANDBOX (cutbox-rows.mjs): the forced cells as the released guide's own fill.sh prints them over the translation 342609117179d691… (all of the seat's roots in one cut). By AI agents, Wed Nov 11 2026. No macro, syntax, notation, axiom, sorry.
-/
import Derived.Test.YteejdagnlepegaaChecked
import GoSem.Claim
import GoSem.ClaimJoined
import GoSem.ClaimMapViews
import Derived.JoinedTies
import Derived.KernelRfl
namespace Go.Proofs.Yteejdagnlepegaa
/- THE CELL 'sum', in the pinned program and in every row, IS THE sha256 OF THE DUMP (.gsa) THAT YteejdagnlepegaaProg.lean LOADS. Nothing in Lean hashes anything: it is a label: what it is worth is what the hold of that sum in a sandbox is worth. -/
noncomputable def Try.pinned : Pinned := { name := "yteejdagnlepegaa", sum := "342609117179d6914843bfcfd273a06080bdd4abd735f8348ad4944edec94c4e", checked := Try.checked }
namespace Rows
def none {H : Type} : Left H := { results := [], args := [] }

/-- 'laws.FnExactFromDeltas': WHATEVER THE INPUT: true; the input reads as it did. -/
def fnExactFromDeltasSpec : ChangeSpec := { name := "fnExactFromDeltas", fn := fun _ => fun
  | [d1, d2, d3] => { results := [.lit (.bool true)], args := [d1, d2, d3] }
  | _ => none }
def fnExactFromDeltasRow : OpenClaim := { program := "yteejdagnlepegaa", sum := "342609117179d6914843bfcfd273a06080bdd4abd735f8348ad4944edec94c4e", func := "loop.example/g01104/laws.FnExactFromDeltas", spec := "fnExactFromDeltas", apart := false }
def FnExactFromDeltasSaid : Prop := fnExactFromDeltasRow.holds Try.pinned (OpenSpec.ofChange fnExactFromDeltasSpec)

/-- ITS FALSE NEIGHBOUR: 'it returns false'. Refute it at one input. -/
def fnExactFromDeltasWrong : ChangeSpec := { name := "fnExactFromDeltas", fn := fun _ => fun
  | [d1, d2, d3] => { results := [.lit (.bool false)], args := [d1, d2, d3] }
  | _ => none }
def FnExactFromDeltasWrongFalsely : Prop := fnExactFromDeltasRow.holds Try.pinned (OpenSpec.ofChange fnExactFromDeltasWrong)

/-- 'laws.FnExactFlipBits': WHATEVER THE INPUT: true; the input reads as it did. -/
def fnExactFlipBitsSpec : ChangeSpec := { name := "fnExactFlipBits", fn := fun _ => fun
  | [d1, d2, d3] => { results := [.lit (.bool true)], args := [d1, d2, d3] }
  | _ => none }
def fnExactFlipBitsRow : OpenClaim := { program := "yteejdagnlepegaa", sum := "342609117179d6914843bfcfd273a06080bdd4abd735f8348ad4944edec94c4e", func := "loop.example/g01104/laws.FnExactFlipBits", spec := "fnExactFlipBits", apart := false }
def FnExactFlipBitsSaid : Prop := fnExactFlipBitsRow.holds Try.pinned (OpenSpec.ofChange fnExactFlipBitsSpec)

/-- ITS FALSE NEIGHBOUR: 'it returns false'. Refute it at one input. -/
def fnExactFlipBitsWrong : ChangeSpec := { name := "fnExactFlipBits", fn := fun _ => fun
  | [d1, d2, d3] => { results := [.lit (.bool false)], args := [d1, d2, d3] }
  | _ => none }
def FnExactFlipBitsWrongFalsely : Prop := fnExactFlipBitsRow.holds Try.pinned (OpenSpec.ofChange fnExactFlipBitsWrong)

/-- 'laws.FnExactTurnList': WHATEVER THE INPUT: true; the input reads as it did. -/
def fnExactTurnListSpec : ChangeSpec := { name := "fnExactTurnList", fn := fun _ => fun
  | [d1, d2, d3] => { results := [.lit (.bool true)], args := [d1, d2, d3] }
  | _ => none }
def fnExactTurnListRow : OpenClaim := { program := "yteejdagnlepegaa", sum := "342609117179d6914843bfcfd273a06080bdd4abd735f8348ad4944edec94c4e", func := "loop.example/g01104/laws.FnExactTurnList", spec := "fnExactTurnList", apart := false }
def FnExactTurnListSaid : Prop := fnExactTurnListRow.holds Try.pinned (OpenSpec.ofChange fnExactTurnListSpec)

/-- ITS FALSE NEIGHBOUR: 'it returns false'. Refute it at one input. -/
def fnExactTurnListWrong : ChangeSpec := { name := "fnExactTurnList", fn := fun _ => fun
  | [d1, d2, d3] => { results := [.lit (.bool false)], args := [d1, d2, d3] }
  | _ => none }
def FnExactTurnListWrongFalsely : Prop := fnExactTurnListRow.holds Try.pinned (OpenSpec.ofChange fnExactTurnListWrong)

/-- 'laws.FnExactHalvesOf': WHATEVER THE INPUT: true; the input reads as it did. -/
def fnExactHalvesOfSpec : ChangeSpec := { name := "fnExactHalvesOf", fn := fun _ => fun
  | [d1, d2] => { results := [.lit (.bool true)], args := [d1, d2] }
  | _ => none }
def fnExactHalvesOfRow : OpenClaim := { program := "yteejdagnlepegaa", sum := "342609117179d6914843bfcfd273a06080bdd4abd735f8348ad4944edec94c4e", func := "loop.example/g01104/laws.FnExactHalvesOf", spec := "fnExactHalvesOf", apart := false }
def FnExactHalvesOfSaid : Prop := fnExactHalvesOfRow.holds Try.pinned (OpenSpec.ofChange fnExactHalvesOfSpec)

/-- ITS FALSE NEIGHBOUR: 'it returns false'. Refute it at one input. -/
def fnExactHalvesOfWrong : ChangeSpec := { name := "fnExactHalvesOf", fn := fun _ => fun
  | [d1, d2] => { results := [.lit (.bool false)], args := [d1, d2] }
  | _ => none }
def FnExactHalvesOfWrongFalsely : Prop := fnExactHalvesOfRow.holds Try.pinned (OpenSpec.ofChange fnExactHalvesOfWrong)

/-- 'laws.FnExactMoveBits': WHATEVER THE INPUT: true; the input reads as it did. -/
def fnExactMoveBitsSpec : ChangeSpec := { name := "fnExactMoveBits", fn := fun _ => fun
  | [d1, d2, d3] => { results := [.lit (.bool true)], args := [d1, d2, d3] }
  | _ => none }
def fnExactMoveBitsRow : OpenClaim := { program := "yteejdagnlepegaa", sum := "342609117179d6914843bfcfd273a06080bdd4abd735f8348ad4944edec94c4e", func := "loop.example/g01104/laws.FnExactMoveBits", spec := "fnExactMoveBits", apart := false }
def FnExactMoveBitsSaid : Prop := fnExactMoveBitsRow.holds Try.pinned (OpenSpec.ofChange fnExactMoveBitsSpec)

/-- ITS FALSE NEIGHBOUR: 'it returns false'. Refute it at one input. -/
def fnExactMoveBitsWrong : ChangeSpec := { name := "fnExactMoveBits", fn := fun _ => fun
  | [d1, d2, d3] => { results := [.lit (.bool false)], args := [d1, d2, d3] }
  | _ => none }
def FnExactMoveBitsWrongFalsely : Prop := fnExactMoveBitsRow.holds Try.pinned (OpenSpec.ofChange fnExactMoveBitsWrong)

/-- 'laws.FnExactReflectedAt': WHATEVER THE INPUT: true; the input reads as it did. -/
def fnExactReflectedAtSpec : ChangeSpec := { name := "fnExactReflectedAt", fn := fun _ => fun
  | [d1, d2] => { results := [.lit (.bool true)], args := [d1, d2] }
  | _ => none }
def fnExactReflectedAtRow : OpenClaim := { program := "yteejdagnlepegaa", sum := "342609117179d6914843bfcfd273a06080bdd4abd735f8348ad4944edec94c4e", func := "loop.example/g01104/laws.FnExactReflectedAt", spec := "fnExactReflectedAt", recurses := true, apart := false }
def FnExactReflectedAtSaid : Prop := fnExactReflectedAtRow.holds Try.pinned (OpenSpec.ofChange fnExactReflectedAtSpec)

/-- ITS FALSE NEIGHBOUR: 'it returns false'. Refute it at one input. -/
def fnExactReflectedAtWrong : ChangeSpec := { name := "fnExactReflectedAt", fn := fun _ => fun
  | [d1, d2] => { results := [.lit (.bool false)], args := [d1, d2] }
  | _ => none }
def FnExactReflectedAtWrongFalsely : Prop := fnExactReflectedAtRow.holds Try.pinned (OpenSpec.ofChange fnExactReflectedAtWrong)

/-- 'laws.FnExactReflectedRank': WHATEVER THE INPUT: true; the input reads as it did. -/
def fnExactReflectedRankSpec : ChangeSpec := { name := "fnExactReflectedRank", fn := fun _ => fun
  | [d1, d2] => { results := [.lit (.bool true)], args := [d1, d2] }
  | _ => none }
def fnExactReflectedRankRow : OpenClaim := { program := "yteejdagnlepegaa", sum := "342609117179d6914843bfcfd273a06080bdd4abd735f8348ad4944edec94c4e", func := "loop.example/g01104/laws.FnExactReflectedRank", spec := "fnExactReflectedRank", recurses := true, apart := false }
def FnExactReflectedRankSaid : Prop := fnExactReflectedRankRow.holds Try.pinned (OpenSpec.ofChange fnExactReflectedRankSpec)

/-- ITS FALSE NEIGHBOUR: 'it returns false'. Refute it at one input. -/
def fnExactReflectedRankWrong : ChangeSpec := { name := "fnExactReflectedRank", fn := fun _ => fun
  | [d1, d2] => { results := [.lit (.bool false)], args := [d1, d2] }
  | _ => none }
def FnExactReflectedRankWrongFalsely : Prop := fnExactReflectedRankRow.holds Try.pinned (OpenSpec.ofChange fnExactReflectedRankWrong)

/- THE SECOND FORM. 'bulk': how many values and letters a reading holds, each counted each time it is reached (what is shared counts as often as it is met; a slice's spare places count too). A statement '..UptoSaid' is the law's where the arguments, and the package variables that the reading takes, are together of bulk at most 1048576: NARROWER than '..Said'. Prove '..Said' where nothing that the law and all that it calls make is longer than what came in: it says more and counts as full. Else prove '..UptoSaid'. A law counts once. -/
mutual
def uptoBulk {H : Type} : DataW H → Nat
  | .lit (.string bytes) => bytes.length + 1
  | .lit _ => 1
  | .nil => 1
  | .ptr d => uptoBulk d + 1
  | .slice elems spare => uptoBulkAll elems + uptoBulkAll spare + 1
  | .agg parts => uptoBulkAll parts + 1
  | .iface _ d => uptoBulk d + 1
  | .map entries => uptoBulkEntries entries + 1
  | .held _ => 1
def uptoBulkAll {H : Type} : List (DataW H) → Nat
  | [] => 0
  | d :: r => uptoBulk d + uptoBulkAll r
def uptoBulkEntries {H : Type} : List (Lit × DataW H) → Nat
  | [] => 0
  | x :: r => uptoBulkEntry x + uptoBulkEntries r
def uptoBulkEntry {H : Type} : Lit × DataW H → Nat
  | (.string bytes, d) => bytes.length + uptoBulk d + 1
  | (_, d) => uptoBulk d + 1
 end
def uptoSmall : (H : Type) → List (DataW H) → Bool := fun _ ds => decide (uptoBulkAll ds ≤ 1048576)
def OpenSpec.upto (s : _root_.Go.ChangeSpec) : _root_.Go.OpenSpec := { _root_.Go.OpenSpec.ofChange s with cond := some uptoSmall }

/-- 'laws.FnExactFromDeltas', WHERE WHAT IT READS IS OF BULK AT MOST 1048576: true; the input reads as it did. -/
def fnExactFromDeltasUptoRow : OpenClaim := { program := "yteejdagnlepegaa", sum := "342609117179d6914843bfcfd273a06080bdd4abd735f8348ad4944edec94c4e", func := "loop.example/g01104/laws.FnExactFromDeltas", spec := "fnExactFromDeltas", apart := false, narrowed := true }
def FnExactFromDeltasUptoSaid : Prop := fnExactFromDeltasUptoRow.holds Try.pinned (OpenSpec.upto fnExactFromDeltasSpec)

/-- 'laws.FnExactFlipBits', WHERE WHAT IT READS IS OF BULK AT MOST 1048576: true; the input reads as it did. -/
def fnExactFlipBitsUptoRow : OpenClaim := { program := "yteejdagnlepegaa", sum := "342609117179d6914843bfcfd273a06080bdd4abd735f8348ad4944edec94c4e", func := "loop.example/g01104/laws.FnExactFlipBits", spec := "fnExactFlipBits", apart := false, narrowed := true }
def FnExactFlipBitsUptoSaid : Prop := fnExactFlipBitsUptoRow.holds Try.pinned (OpenSpec.upto fnExactFlipBitsSpec)

/-- 'laws.FnExactTurnList', WHERE WHAT IT READS IS OF BULK AT MOST 1048576: true; the input reads as it did. -/
def fnExactTurnListUptoRow : OpenClaim := { program := "yteejdagnlepegaa", sum := "342609117179d6914843bfcfd273a06080bdd4abd735f8348ad4944edec94c4e", func := "loop.example/g01104/laws.FnExactTurnList", spec := "fnExactTurnList", apart := false, narrowed := true }
def FnExactTurnListUptoSaid : Prop := fnExactTurnListUptoRow.holds Try.pinned (OpenSpec.upto fnExactTurnListSpec)

/-- 'laws.FnExactHalvesOf', WHERE WHAT IT READS IS OF BULK AT MOST 1048576: true; the input reads as it did. -/
def fnExactHalvesOfUptoRow : OpenClaim := { program := "yteejdagnlepegaa", sum := "342609117179d6914843bfcfd273a06080bdd4abd735f8348ad4944edec94c4e", func := "loop.example/g01104/laws.FnExactHalvesOf", spec := "fnExactHalvesOf", apart := false, narrowed := true }
def FnExactHalvesOfUptoSaid : Prop := fnExactHalvesOfUptoRow.holds Try.pinned (OpenSpec.upto fnExactHalvesOfSpec)

/-- 'laws.FnExactMoveBits', WHERE WHAT IT READS IS OF BULK AT MOST 1048576: true; the input reads as it did. -/
def fnExactMoveBitsUptoRow : OpenClaim := { program := "yteejdagnlepegaa", sum := "342609117179d6914843bfcfd273a06080bdd4abd735f8348ad4944edec94c4e", func := "loop.example/g01104/laws.FnExactMoveBits", spec := "fnExactMoveBits", apart := false, narrowed := true }
def FnExactMoveBitsUptoSaid : Prop := fnExactMoveBitsUptoRow.holds Try.pinned (OpenSpec.upto fnExactMoveBitsSpec)

/-- 'laws.FnExactReflectedAt', WHERE WHAT IT READS IS OF BULK AT MOST 1048576: true; the input reads as it did. -/
def fnExactReflectedAtUptoRow : OpenClaim := { program := "yteejdagnlepegaa", sum := "342609117179d6914843bfcfd273a06080bdd4abd735f8348ad4944edec94c4e", func := "loop.example/g01104/laws.FnExactReflectedAt", spec := "fnExactReflectedAt", recurses := true, apart := false, narrowed := true }
def FnExactReflectedAtUptoSaid : Prop := fnExactReflectedAtUptoRow.holds Try.pinned (OpenSpec.upto fnExactReflectedAtSpec)

/-- 'laws.FnExactReflectedRank', WHERE WHAT IT READS IS OF BULK AT MOST 1048576: true; the input reads as it did. -/
def fnExactReflectedRankUptoRow : OpenClaim := { program := "yteejdagnlepegaa", sum := "342609117179d6914843bfcfd273a06080bdd4abd735f8348ad4944edec94c4e", func := "loop.example/g01104/laws.FnExactReflectedRank", spec := "fnExactReflectedRank", recurses := true, apart := false, narrowed := true }
def FnExactReflectedRankUptoSaid : Prop := fnExactReflectedRankUptoRow.holds Try.pinned (OpenSpec.upto fnExactReflectedRankSpec)

end Rows
end Go.Proofs.Yteejdagnlepegaa
