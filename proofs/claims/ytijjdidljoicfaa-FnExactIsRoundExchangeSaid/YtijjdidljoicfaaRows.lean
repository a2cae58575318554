/-
  No cell of these rows narrows 'for every input' (looked for: loops, veiled, ifaces, maps, wideKeys, modest, calm, conditions, laid).
  DERIVED. THE GIVEN ROWS OF THIS SEAT. 12 by the template 'for every input the law returns true; each argument reads behind the call as it read before'; 0 by the template 'total and deterministic' (their statements: YtijjdidljoicfaaTotals.lean).
  GIVEN WITH THE SEED: the statements are not yours to turn. If you find one false, say at which input.
  Laid BY PROGRAM, IN A SANDBOX (cutbox-rows.mjs): the forced cells as the released guide's own fill.sh prints them over the translation 929cad37ca704145… (all of the seat's roots in one cut). By AI agents, Wed Nov 11 2026. No macro, syntax, notation, axiom, sorry.
-/
import Derived.Test.YtijjdidljoicfaaChecked
import GoSem.Claim
import GoSem.ClaimJoined
import GoSem.ClaimMapViews
import Derived.JoinedTies
import Derived.KernelRfl
namespace Go.Proofs.Ytijjdidljoicfaa
/- THE CELL 'sum', in the pinned program and in every row, IS THE sha256 OF THE DUMP (.gsa) THAT YtijjdidljoicfaaProg.lean LOADS. Nothing in Lean hashes anything: it is a label: what it is worth is what the hold of that sum in a sandbox is worth. -/
noncomputable def Try.pinned : Pinned := { name := "ytijjdidljoicfaa", sum := "929cad37ca70414541c0dab4c5ca8d9c29b3b5dbd20bfaea75145bc5c004365c", checked := Try.checked }
namespace Rows
def none {H : Type} : Left H := { results := [], args := [] }

/-- 'laws.FnExactNextMixed': WHATEVER THE INPUT: true; the input reads as it did. -/
def fnExactNextMixedSpec : ChangeSpec := { name := "fnExactNextMixed", fn := fun _ => fun
  | [d1, d2] => { results := [.lit (.bool true)], args := [d1, d2] }
  | _ => none }
def fnExactNextMixedRow : OpenClaim := { program := "ytijjdidljoicfaa", sum := "929cad37ca70414541c0dab4c5ca8d9c29b3b5dbd20bfaea75145bc5c004365c", func := "loop.example/g01104/laws.FnExactNextMixed", spec := "fnExactNextMixed", recurses := true, apart := false }
def FnExactNextMixedSaid : Prop := fnExactNextMixedRow.holds Try.pinned (OpenSpec.ofChange fnExactNextMixedSpec)

/-- ITS FALSE NEIGHBOUR: 'it returns false'. Refute it at one input. -/
def fnExactNextMixedWrong : ChangeSpec := { name := "fnExactNextMixed", fn := fun _ => fun
  | [d1, d2] => { results := [.lit (.bool false)], args := [d1, d2] }
  | _ => none }
def FnExactNextMixedWrongFalsely : Prop := fnExactNextMixedRow.holds Try.pinned (OpenSpec.ofChange fnExactNextMixedWrong)

/-- 'laws.FnExactIsMixedList': WHATEVER THE INPUT: true; the input reads as it did. -/
def fnExactIsMixedListSpec : ChangeSpec := { name := "fnExactIsMixedList", fn := fun _ => fun
  | [d1, d2] => { results := [.lit (.bool true)], args := [d1, d2] }
  | _ => none }
def fnExactIsMixedListRow : OpenClaim := { program := "ytijjdidljoicfaa", sum := "929cad37ca70414541c0dab4c5ca8d9c29b3b5dbd20bfaea75145bc5c004365c", func := "loop.example/g01104/laws.FnExactIsMixedList", spec := "fnExactIsMixedList", apart := false }
def FnExactIsMixedListSaid : Prop := fnExactIsMixedListRow.holds Try.pinned (OpenSpec.ofChange fnExactIsMixedListSpec)

/-- ITS FALSE NEIGHBOUR: 'it returns false'. Refute it at one input. -/
def fnExactIsMixedListWrong : ChangeSpec := { name := "fnExactIsMixedList", fn := fun _ => fun
  | [d1, d2] => { results := [.lit (.bool false)], args := [d1, d2] }
  | _ => none }
def FnExactIsMixedListWrongFalsely : Prop := fnExactIsMixedListRow.holds Try.pinned (OpenSpec.ofChange fnExactIsMixedListWrong)

/-- 'laws.FnExactRevolvingAt': WHATEVER THE INPUT: true; the input reads as it did. -/
def fnExactRevolvingAtSpec : ChangeSpec := { name := "fnExactRevolvingAt", fn := fun _ => fun
  | [d1, d2, d3] => { results := [.lit (.bool true)], args := [d1, d2, d3] }
  | _ => none }
def fnExactRevolvingAtRow : OpenClaim := { program := "ytijjdidljoicfaa", sum := "929cad37ca70414541c0dab4c5ca8d9c29b3b5dbd20bfaea75145bc5c004365c", func := "loop.example/g01104/laws.FnExactRevolvingAt", spec := "fnExactRevolvingAt", recurses := true, apart := false }
def FnExactRevolvingAtSaid : Prop := fnExactRevolvingAtRow.holds Try.pinned (OpenSpec.ofChange fnExactRevolvingAtSpec)

/-- ITS FALSE NEIGHBOUR: 'it returns false'. Refute it at one input. -/
def fnExactRevolvingAtWrong : ChangeSpec := { name := "fnExactRevolvingAt", fn := fun _ => fun
  | [d1, d2, d3] => { results := [.lit (.bool false)], args := [d1, d2, d3] }
  | _ => none }
def FnExactRevolvingAtWrongFalsely : Prop := fnExactRevolvingAtRow.holds Try.pinned (OpenSpec.ofChange fnExactRevolvingAtWrong)

/-- 'laws.FnExactRevolvingRank': WHATEVER THE INPUT: true; the input reads as it did. -/
def fnExactRevolvingRankSpec : ChangeSpec := { name := "fnExactRevolvingRank", fn := fun _ => fun
  | [d1, d2] => { results := [.lit (.bool true)], args := [d1, d2] }
  | _ => none }
def fnExactRevolvingRankRow : OpenClaim := { program := "ytijjdidljoicfaa", sum := "929cad37ca70414541c0dab4c5ca8d9c29b3b5dbd20bfaea75145bc5c004365c", func := "loop.example/g01104/laws.FnExactRevolvingRank", spec := "fnExactRevolvingRank", unfollowed := true, recurses := true, apart := false }
def FnExactRevolvingRankSaid : Prop := fnExactRevolvingRankRow.holds Try.pinned (OpenSpec.ofChange fnExactRevolvingRankSpec)

/-- ITS FALSE NEIGHBOUR: 'it returns false'. Refute it at one input. -/
def fnExactRevolvingRankWrong : ChangeSpec := { name := "fnExactRevolvingRank", fn := fun _ => fun
  | [d1, d2] => { results := [.lit (.bool false)], args := [d1, d2] }
  | _ => none }
def FnExactRevolvingRankWrongFalsely : Prop := fnExactRevolvingRankRow.holds Try.pinned (OpenSpec.ofChange fnExactRevolvingRankWrong)

/-- 'laws.FnExactNextRevolving': WHATEVER THE INPUT: true; the input reads as it did. -/
def fnExactNextRevolvingSpec : ChangeSpec := { name := "fnExactNextRevolving", fn := fun _ => fun
  | [d1, d2] => { results := [.lit (.bool true)], args := [d1, d2] }
  | _ => none }
def fnExactNextRevolvingRow : OpenClaim := { program := "ytijjdidljoicfaa", sum := "929cad37ca70414541c0dab4c5ca8d9c29b3b5dbd20bfaea75145bc5c004365c", func := "loop.example/g01104/laws.FnExactNextRevolving", spec := "fnExactNextRevolving", unfollowed := true, recurses := true, apart := false }
def FnExactNextRevolvingSaid : Prop := fnExactNextRevolvingRow.holds Try.pinned (OpenSpec.ofChange fnExactNextRevolvingSpec)

/-- ITS FALSE NEIGHBOUR: 'it returns false'. Refute it at one input. -/
def fnExactNextRevolvingWrong : ChangeSpec := { name := "fnExactNextRevolving", fn := fun _ => fun
  | [d1, d2] => { results := [.lit (.bool false)], args := [d1, d2] }
  | _ => none }
def FnExactNextRevolvingWrongFalsely : Prop := fnExactNextRevolvingRow.holds Try.pinned (OpenSpec.ofChange fnExactNextRevolvingWrong)

/-- 'laws.FnExactRevolvingList': WHATEVER THE INPUT: true; the input reads as it did. -/
def fnExactRevolvingListSpec : ChangeSpec := { name := "fnExactRevolvingList", fn := fun _ => fun
  | [d1, d2] => { results := [.lit (.bool true)], args := [d1, d2] }
  | _ => none }
def fnExactRevolvingListRow : OpenClaim := { program := "ytijjdidljoicfaa", sum := "929cad37ca70414541c0dab4c5ca8d9c29b3b5dbd20bfaea75145bc5c004365c", func := "loop.example/g01104/laws.FnExactRevolvingList", spec := "fnExactRevolvingList", recurses := true, apart := false }
def FnExactRevolvingListSaid : Prop := fnExactRevolvingListRow.holds Try.pinned (OpenSpec.ofChange fnExactRevolvingListSpec)

/-- ITS FALSE NEIGHBOUR: 'it returns false'. Refute it at one input. -/
def fnExactRevolvingListWrong : ChangeSpec := { name := "fnExactRevolvingList", fn := fun _ => fun
  | [d1, d2] => { results := [.lit (.bool false)], args := [d1, d2] }
  | _ => none }
def FnExactRevolvingListWrongFalsely : Prop := fnExactRevolvingListRow.holds Try.pinned (OpenSpec.ofChange fnExactRevolvingListWrong)

/-- 'laws.FnExactExchangeOf': WHATEVER THE INPUT: true; the input reads as it did. -/
def fnExactExchangeOfSpec : ChangeSpec := { name := "fnExactExchangeOf", fn := fun _ => fun
  | [d1, d2, d3] => { results := [.lit (.bool true)], args := [d1, d2, d3] }
  | _ => none }
def fnExactExchangeOfRow : OpenClaim := { program := "ytijjdidljoicfaa", sum := "929cad37ca70414541c0dab4c5ca8d9c29b3b5dbd20bfaea75145bc5c004365c", func := "loop.example/g01104/laws.FnExactExchangeOf", spec := "fnExactExchangeOf", unfollowed := true, recurses := true, apart := false }
def FnExactExchangeOfSaid : Prop := fnExactExchangeOfRow.holds Try.pinned (OpenSpec.ofChange fnExactExchangeOfSpec)

/-- ITS FALSE NEIGHBOUR: 'it returns false'. Refute it at one input. -/
def fnExactExchangeOfWrong : ChangeSpec := { name := "fnExactExchangeOf", fn := fun _ => fun
  | [d1, d2, d3] => { results := [.lit (.bool false)], args := [d1, d2, d3] }
  | _ => none }
def FnExactExchangeOfWrongFalsely : Prop := fnExactExchangeOfRow.holds Try.pinned (OpenSpec.ofChange fnExactExchangeOfWrong)

/-- 'laws.FnExactIsExchangeList': WHATEVER THE INPUT: true; the input reads as it did. -/
def fnExactIsExchangeListSpec : ChangeSpec := { name := "fnExactIsExchangeList", fn := fun _ => fun
  | [d1, d2, d3] => { results := [.lit (.bool true)], args := [d1, d2, d3] }
  | _ => none }
def fnExactIsExchangeListRow : OpenClaim := { program := "ytijjdidljoicfaa", sum := "929cad37ca70414541c0dab4c5ca8d9c29b3b5dbd20bfaea75145bc5c004365c", func := "loop.example/g01104/laws.FnExactIsExchangeList", spec := "fnExactIsExchangeList", unfollowed := true, recurses := true, apart := false }
def FnExactIsExchangeListSaid : Prop := fnExactIsExchangeListRow.holds Try.pinned (OpenSpec.ofChange fnExactIsExchangeListSpec)

/-- ITS FALSE NEIGHBOUR: 'it returns false'. Refute it at one input. -/
def fnExactIsExchangeListWrong : ChangeSpec := { name := "fnExactIsExchangeList", fn := fun _ => fun
  | [d1, d2, d3] => { results := [.lit (.bool false)], args := [d1, d2, d3] }
  | _ => none }
def FnExactIsExchangeListWrongFalsely : Prop := fnExactIsExchangeListRow.holds Try.pinned (OpenSpec.ofChange fnExactIsExchangeListWrong)

/-- 'laws.FnExactIsRoundExchange': WHATEVER THE INPUT: true; the input reads as it did. -/
def fnExactIsRoundExchangeSpec : ChangeSpec := { name := "fnExactIsRoundExchange", fn := fun _ => fun
  | [d1, d2, d3] => { results := [.lit (.bool true)], args := [d1, d2, d3] }
  | _ => none }
def fnExactIsRoundExchangeRow : OpenClaim := { program := "ytijjdidljoicfaa", sum := "929cad37ca70414541c0dab4c5ca8d9c29b3b5dbd20bfaea75145bc5c004365c", func := "loop.example/g01104/laws.FnExactIsRoundExchange", spec := "fnExactIsRoundExchange", unfollowed := true, recurses := true, apart := false }
def FnExactIsRoundExchangeSaid : Prop := fnExactIsRoundExchangeRow.holds Try.pinned (OpenSpec.ofChange fnExactIsRoundExchangeSpec)

/-- ITS FALSE NEIGHBOUR: 'it returns false'. Refute it at one input. -/
def fnExactIsRoundExchangeWrong : ChangeSpec := { name := "fnExactIsRoundExchange", fn := fun _ => fun
  | [d1, d2, d3] => { results := [.lit (.bool false)], args := [d1, d2, d3] }
  | _ => none }
def FnExactIsRoundExchangeWrongFalsely : Prop := fnExactIsRoundExchangeRow.holds Try.pinned (OpenSpec.ofChange fnExactIsRoundExchangeWrong)

/-- 'laws.FnExactBitsOf': WHATEVER THE INPUT: true; the input reads as it did. -/
def fnExactBitsOfSpec : ChangeSpec := { name := "fnExactBitsOf", fn := fun _ => fun
  | [d1, d2] => { results := [.lit (.bool true)], args := [d1, d2] }
  | _ => none }
def fnExactBitsOfRow : OpenClaim := { program := "ytijjdidljoicfaa", sum := "929cad37ca70414541c0dab4c5ca8d9c29b3b5dbd20bfaea75145bc5c004365c", func := "loop.example/g01104/laws.FnExactBitsOf", spec := "fnExactBitsOf", unfollowed := true, recurses := true, apart := false }
def FnExactBitsOfSaid : Prop := fnExactBitsOfRow.holds Try.pinned (OpenSpec.ofChange fnExactBitsOfSpec)

/-- ITS FALSE NEIGHBOUR: 'it returns false'. Refute it at one input. -/
def fnExactBitsOfWrong : ChangeSpec := { name := "fnExactBitsOf", fn := fun _ => fun
  | [d1, d2] => { results := [.lit (.bool false)], args := [d1, d2] }
  | _ => none }
def FnExactBitsOfWrongFalsely : Prop := fnExactBitsOfRow.holds Try.pinned (OpenSpec.ofChange fnExactBitsOfWrong)

/-- 'laws.FnExactFromBits': WHATEVER THE INPUT: true; the input reads as it did. -/
def fnExactFromBitsSpec : ChangeSpec := { name := "fnExactFromBits", fn := fun _ => fun
  | [d] => { results := [.lit (.bool true)], args := [d] }
  | _ => none }
def fnExactFromBitsRow : OpenClaim := { program := "ytijjdidljoicfaa", sum := "929cad37ca70414541c0dab4c5ca8d9c29b3b5dbd20bfaea75145bc5c004365c", func := "loop.example/g01104/laws.FnExactFromBits", spec := "fnExactFromBits", apart := false }
def FnExactFromBitsSaid : Prop := fnExactFromBitsRow.holds Try.pinned (OpenSpec.ofChange fnExactFromBitsSpec)

/-- ITS FALSE NEIGHBOUR: 'it returns false'. Refute it at one input. -/
def fnExactFromBitsWrong : ChangeSpec := { name := "fnExactFromBits", fn := fun _ => fun
  | [d] => { results := [.lit (.bool false)], args := [d] }
  | _ => none }
def FnExactFromBitsWrongFalsely : Prop := fnExactFromBitsRow.holds Try.pinned (OpenSpec.ofChange fnExactFromBitsWrong)

/-- 'laws.FnExactNextCool': WHATEVER THE INPUT: true; the input reads as it did. -/
def fnExactNextCoolSpec : ChangeSpec := { name := "fnExactNextCool", fn := fun _ => fun
  | [d] => { results := [.lit (.bool true)], args := [d] }
  | _ => none }
def fnExactNextCoolRow : OpenClaim := { program := "ytijjdidljoicfaa", sum := "929cad37ca70414541c0dab4c5ca8d9c29b3b5dbd20bfaea75145bc5c004365c", func := "loop.example/g01104/laws.FnExactNextCool", spec := "fnExactNextCool", apart := false }
def FnExactNextCoolSaid : Prop := fnExactNextCoolRow.holds Try.pinned (OpenSpec.ofChange fnExactNextCoolSpec)

/-- ITS FALSE NEIGHBOUR: 'it returns false'. Refute it at one input. -/
def fnExactNextCoolWrong : ChangeSpec := { name := "fnExactNextCool", fn := fun _ => fun
  | [d] => { results := [.lit (.bool false)], args := [d] }
  | _ => none }
def FnExactNextCoolWrongFalsely : Prop := fnExactNextCoolRow.holds Try.pinned (OpenSpec.ofChange fnExactNextCoolWrong)

/- THE SECOND FORM. 'bulk': how many values and letters a reading holds, each counted each time it is reached (what is shared counts as often as it is met; a slice's spare places count too). A statement '..UptoSaid' is the law's where the arguments, and the package variables that the reading takes, are together of bulk at most 1048576: NARROWER than '..Said'. Prove '..Said' where nothing that the law and all that it calls make is longer than what came in: it says more and counts as full. Else prove '..UptoSaid'. A law counts once. -/
mutual
def uptoBulk {H : Type} : DataW H → Nat
  | .lit (.string bytes) => bytes.length + 1
  | .lit _ => 1
  | .nil => 1
  | .ptr d => uptoBulk d + 1
  | .slice elems spare => uptoBulkAll elems + uptoBulkAll spare + 1
  | .agg parts => uptoBulkAll parts + 1
  | .iface _ d => uptoBulk d + 1
  | .map entries => uptoBulkEntries entries + 1
  | .held _ => 1
def uptoBulkAll {H : Type} : List (DataW H) → Nat
  | [] => 0
  | d :: r => uptoBulk d + uptoBulkAll r
def uptoBulkEntries {H : Type} : List (Lit × DataW H) → Nat
  | [] => 0
  | x :: r => uptoBulkEntry x + uptoBulkEntries r
def uptoBulkEntry {H : Type} : Lit × DataW H → Nat
  | (.string bytes, d) => bytes.length + uptoBulk d + 1
  | (_, d) => uptoBulk d + 1
 end
def uptoSmall : (H : Type) → List (DataW H) → Bool := fun _ ds => decide (uptoBulkAll ds ≤ 1048576)
def OpenSpec.upto (s : _root_.Go.ChangeSpec) : _root_.Go.OpenSpec := { _root_.Go.OpenSpec.ofChange s with cond := some uptoSmall }

/-- 'laws.FnExactNextMixed', WHERE WHAT IT READS IS OF BULK AT MOST 1048576: true; the input reads as it did. -/
def fnExactNextMixedUptoRow : OpenClaim := { program := "ytijjdidljoicfaa", sum := "929cad37ca70414541c0dab4c5ca8d9c29b3b5dbd20bfaea75145bc5c004365c", func := "loop.example/g01104/laws.FnExactNextMixed", spec := "fnExactNextMixed", recurses := true, apart := false, narrowed := true }
def FnExactNextMixedUptoSaid : Prop := fnExactNextMixedUptoRow.holds Try.pinned (OpenSpec.upto fnExactNextMixedSpec)

/-- 'laws.FnExactIsMixedList', WHERE WHAT IT READS IS OF BULK AT MOST 1048576: true; the input reads as it did. -/
def fnExactIsMixedListUptoRow : OpenClaim := { program := "ytijjdidljoicfaa", sum := "929cad37ca70414541c0dab4c5ca8d9c29b3b5dbd20bfaea75145bc5c004365c", func := "loop.example/g01104/laws.FnExactIsMixedList", spec := "fnExactIsMixedList", apart := false, narrowed := true }
def FnExactIsMixedListUptoSaid : Prop := fnExactIsMixedListUptoRow.holds Try.pinned (OpenSpec.upto fnExactIsMixedListSpec)

/-- 'laws.FnExactRevolvingAt', WHERE WHAT IT READS IS OF BULK AT MOST 1048576: true; the input reads as it did. -/
def fnExactRevolvingAtUptoRow : OpenClaim := { program := "ytijjdidljoicfaa", sum := "929cad37ca70414541c0dab4c5ca8d9c29b3b5dbd20bfaea75145bc5c004365c", func := "loop.example/g01104/laws.FnExactRevolvingAt", spec := "fnExactRevolvingAt", recurses := true, apart := false, narrowed := true }
def FnExactRevolvingAtUptoSaid : Prop := fnExactRevolvingAtUptoRow.holds Try.pinned (OpenSpec.upto fnExactRevolvingAtSpec)

/-- 'laws.FnExactRevolvingRank', WHERE WHAT IT READS IS OF BULK AT MOST 1048576: true; the input reads as it did. -/
def fnExactRevolvingRankUptoRow : OpenClaim := { program := "ytijjdidljoicfaa", sum := "929cad37ca70414541c0dab4c5ca8d9c29b3b5dbd20bfaea75145bc5c004365c", func := "loop.example/g01104/laws.FnExactRevolvingRank", spec := "fnExactRevolvingRank", unfollowed := true, recurses := true, apart := false, narrowed := true }
def FnExactRevolvingRankUptoSaid : Prop := fnExactRevolvingRankUptoRow.holds Try.pinned (OpenSpec.upto fnExactRevolvingRankSpec)

/-- 'laws.FnExactNextRevolving', WHERE WHAT IT READS IS OF BULK AT MOST 1048576: true; the input reads as it did. -/
def fnExactNextRevolvingUptoRow : OpenClaim := { program := "ytijjdidljoicfaa", sum := "929cad37ca70414541c0dab4c5ca8d9c29b3b5dbd20bfaea75145bc5c004365c", func := "loop.example/g01104/laws.FnExactNextRevolving", spec := "fnExactNextRevolving", unfollowed := true, recurses := true, apart := false, narrowed := true }
def FnExactNextRevolvingUptoSaid : Prop := fnExactNextRevolvingUptoRow.holds Try.pinned (OpenSpec.upto fnExactNextRevolvingSpec)

/-- 'laws.FnExactRevolvingList', WHERE WHAT IT READS IS OF BULK AT MOST 1048576: true; the input reads as it did. -/
def fnExactRevolvingListUptoRow : OpenClaim := { program := "ytijjdidljoicfaa", sum := "929cad37ca70414541c0dab4c5ca8d9c29b3b5dbd20bfaea75145bc5c004365c", func := "loop.example/g01104/laws.FnExactRevolvingList", spec := "fnExactRevolvingList", recurses := true, apart := false, narrowed := true }
def FnExactRevolvingListUptoSaid : Prop := fnExactRevolvingListUptoRow.holds Try.pinned (OpenSpec.upto fnExactRevolvingListSpec)

/-- 'laws.FnExactExchangeOf', WHERE WHAT IT READS IS OF BULK AT MOST 1048576: true; the input reads as it did. -/
def fnExactExchangeOfUptoRow : OpenClaim := { program := "ytijjdidljoicfaa", sum := "929cad37ca70414541c0dab4c5ca8d9c29b3b5dbd20bfaea75145bc5c004365c", func := "loop.example/g01104/laws.FnExactExchangeOf", spec := "fnExactExchangeOf", unfollowed := true, recurses := true, apart := false, narrowed := true }
def FnExactExchangeOfUptoSaid : Prop := fnExactExchangeOfUptoRow.holds Try.pinned (OpenSpec.upto fnExactExchangeOfSpec)

/-- 'laws.FnExactIsExchangeList', WHERE WHAT IT READS IS OF BULK AT MOST 1048576: true; the input reads as it did. -/
def fnExactIsExchangeListUptoRow : OpenClaim := { program := "ytijjdidljoicfaa", sum := "929cad37ca70414541c0dab4c5ca8d9c29b3b5dbd20bfaea75145bc5c004365c", func := "loop.example/g01104/laws.FnExactIsExchangeList", spec := "fnExactIsExchangeList", unfollowed := true, recurses := true, apart := false, narrowed := true }
def FnExactIsExchangeListUptoSaid : Prop := fnExactIsExchangeListUptoRow.holds Try.pinned (OpenSpec.upto fnExactIsExchangeListSpec)

/-- 'laws.FnExactIsRoundExchange', WHERE WHAT IT READS IS OF BULK AT MOST 1048576: true; the input reads as it did. -/
def fnExactIsRoundExchangeUptoRow : OpenClaim := { program := "ytijjdidljoicfaa", sum := "929cad37ca70414541c0dab4c5ca8d9c29b3b5dbd20bfaea75145bc5c004365c", func := "loop.example/g01104/laws.FnExactIsRoundExchange", spec := "fnExactIsRoundExchange", unfollowed := true, recurses := true, apart := false, narrowed := true }
def FnExactIsRoundExchangeUptoSaid : Prop := fnExactIsRoundExchangeUptoRow.holds Try.pinned (OpenSpec.upto fnExactIsRoundExchangeSpec)

/-- 'laws.FnExactBitsOf', WHERE WHAT IT READS IS OF BULK AT MOST 1048576: true; the input reads as it did. -/
def fnExactBitsOfUptoRow : OpenClaim := { program := "ytijjdidljoicfaa", sum := "929cad37ca70414541c0dab4c5ca8d9c29b3b5dbd20bfaea75145bc5c004365c", func := "loop.example/g01104/laws.FnExactBitsOf", spec := "fnExactBitsOf", unfollowed := true, recurses := true, apart := false, narrowed := true }
def FnExactBitsOfUptoSaid : Prop := fnExactBitsOfUptoRow.holds Try.pinned (OpenSpec.upto fnExactBitsOfSpec)

/-- 'laws.FnExactFromBits', WHERE WHAT IT READS IS OF BULK AT MOST 1048576: true; the input reads as it did. -/
def fnExactFromBitsUptoRow : OpenClaim := { program := "ytijjdidljoicfaa", sum := "929cad37ca70414541c0dab4c5ca8d9c29b3b5dbd20bfaea75145bc5c004365c", func := "loop.example/g01104/laws.FnExactFromBits", spec := "fnExactFromBits", apart := false, narrowed := true }
def FnExactFromBitsUptoSaid : Prop := fnExactFromBitsUptoRow.holds Try.pinned (OpenSpec.upto fnExactFromBitsSpec)

/-- 'laws.FnExactNextCool', WHERE WHAT IT READS IS OF BULK AT MOST 1048576: true; the input reads as it did. -/
def fnExactNextCoolUptoRow : OpenClaim := { program := "ytijjdidljoicfaa", sum := "929cad37ca70414541c0dab4c5ca8d9c29b3b5dbd20bfaea75145bc5c004365c", func := "loop.example/g01104/laws.FnExactNextCool", spec := "fnExactNextCool", apart := false, narrowed := true }
def FnExactNextCoolUptoSaid : Prop := fnExactNextCoolUptoRow.holds Try.pinned (OpenSpec.upto fnExactNextCoolSpec)

end Rows
end Go.Proofs.Ytijjdidljoicfaa
