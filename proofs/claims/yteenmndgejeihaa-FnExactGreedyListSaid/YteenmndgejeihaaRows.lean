/-
  No cell of these rows narrows 'for every input' (looked for: loops, veiled, ifaces, maps, wideKeys, modest, calm, conditions, laid).
  DERIVED. THE GIVEN ROWS OF THIS SEAT. 15 by the template 'for every input the law returns true; each argument reads behind the call as it read before'; 0 by the template 'total and deterministic' (their statements: YteenmndgejeihaaTotals.lean).
  GIVEN WITH THE SEED: the statements are not yours to turn. If you find one false, say at which input.
  Laid BY PROGRAM, IN A SANDBOX (cutbox-rows.mjs): the forced cells as the released guide's own fill.sh prints them over the translation be495d048208cfc8… (all of the seat's roots in one cut). By AI agents, Wed Nov 11 2026. No macro, syntax, notation, axiom, sorry.
-/
import Derived.Test.YteenmndgejeihaaChecked
import GoSem.Claim
import GoSem.ClaimJoined
import GoSem.ClaimMapViews
import Derived.JoinedTies
import Derived.KernelRfl
namespace Go.Proofs.Yteenmndgejeihaa
/- THE CELL 'sum', in the pinned program and in every row, IS THE sha256 OF THE DUMP (.gsa) THAT YteenmndgejeihaaProg.lean LOADS. Nothing in Lean hashes anything: it is a label: what it is worth is what the hold of that sum in a sandbox is worth. -/
noncomputable def Try.pinned : Pinned := { name := "yteenmndgejeihaa", sum := "be495d048208cfc885c7edba1ad04ec0f8c9bc8c9ad42ea8db35aedcb807c696", checked := Try.checked }
namespace Rows
def none {H : Type} : Left H := { results := [], args := [] }

/-- 'laws.FnExactTrotterAt': WHATEVER THE INPUT: true; the input reads as it did. -/
def fnExactTrotterAtSpec : ChangeSpec := { name := "fnExactTrotterAt", fn := fun _ => fun
  | [d1, d2] => { results := [.lit (.bool true)], args := [d1, d2] }
  | _ => none }
def fnExactTrotterAtRow : OpenClaim := { program := "yteenmndgejeihaa", sum := "be495d048208cfc885c7edba1ad04ec0f8c9bc8c9ad42ea8db35aedcb807c696", func := "loop.example/g01104/laws.FnExactTrotterAt", spec := "fnExactTrotterAt", inPlace := ["slices.overlaps[int]"], recurses := true, apart := false }
def FnExactTrotterAtSaid : Prop := fnExactTrotterAtRow.holds Try.pinned (OpenSpec.ofChange fnExactTrotterAtSpec)

/-- ITS FALSE NEIGHBOUR: 'it returns false'. Refute it at one input. -/
def fnExactTrotterAtWrong : ChangeSpec := { name := "fnExactTrotterAt", fn := fun _ => fun
  | [d1, d2] => { results := [.lit (.bool false)], args := [d1, d2] }
  | _ => none }
def FnExactTrotterAtWrongFalsely : Prop := fnExactTrotterAtRow.holds Try.pinned (OpenSpec.ofChange fnExactTrotterAtWrong)

/-- 'laws.FnExactTrotterRank': WHATEVER THE INPUT: true; the input reads as it did. -/
def fnExactTrotterRankSpec : ChangeSpec := { name := "fnExactTrotterRank", fn := fun _ => fun
  | [d] => { results := [.lit (.bool true)], args := [d] }
  | _ => none }
def fnExactTrotterRankRow : OpenClaim := { program := "yteenmndgejeihaa", sum := "be495d048208cfc885c7edba1ad04ec0f8c9bc8c9ad42ea8db35aedcb807c696", func := "loop.example/g01104/laws.FnExactTrotterRank", spec := "fnExactTrotterRank", unfollowed := true, recurses := true, apart := false }
def FnExactTrotterRankSaid : Prop := fnExactTrotterRankRow.holds Try.pinned (OpenSpec.ofChange fnExactTrotterRankSpec)

/-- ITS FALSE NEIGHBOUR: 'it returns false'. Refute it at one input. -/
def fnExactTrotterRankWrong : ChangeSpec := { name := "fnExactTrotterRank", fn := fun _ => fun
  | [d] => { results := [.lit (.bool false)], args := [d] }
  | _ => none }
def FnExactTrotterRankWrongFalsely : Prop := fnExactTrotterRankRow.holds Try.pinned (OpenSpec.ofChange fnExactTrotterRankWrong)

/-- 'laws.FnExactNextTrotter': WHATEVER THE INPUT: true; the input reads as it did. -/
def fnExactNextTrotterSpec : ChangeSpec := { name := "fnExactNextTrotter", fn := fun _ => fun
  | [d] => { results := [.lit (.bool true)], args := [d] }
  | _ => none }
def fnExactNextTrotterRow : OpenClaim := { program := "yteenmndgejeihaa", sum := "be495d048208cfc885c7edba1ad04ec0f8c9bc8c9ad42ea8db35aedcb807c696", func := "loop.example/g01104/laws.FnExactNextTrotter", spec := "fnExactNextTrotter", inPlace := ["slices.overlaps[int]"], unfollowed := true, recurses := true, apart := false }
def FnExactNextTrotterSaid : Prop := fnExactNextTrotterRow.holds Try.pinned (OpenSpec.ofChange fnExactNextTrotterSpec)

/-- ITS FALSE NEIGHBOUR: 'it returns false'. Refute it at one input. -/
def fnExactNextTrotterWrong : ChangeSpec := { name := "fnExactNextTrotter", fn := fun _ => fun
  | [d] => { results := [.lit (.bool false)], args := [d] }
  | _ => none }
def FnExactNextTrotterWrongFalsely : Prop := fnExactNextTrotterRow.holds Try.pinned (OpenSpec.ofChange fnExactNextTrotterWrong)

/-- 'laws.FnExactIsMove': WHATEVER THE INPUT: true; the input reads as it did. -/
def fnExactIsMoveSpec : ChangeSpec := { name := "fnExactIsMove", fn := fun _ => fun
  | [d1, d2] => { results := [.lit (.bool true)], args := [d1, d2] }
  | _ => none }
def fnExactIsMoveRow : OpenClaim := { program := "yteenmndgejeihaa", sum := "be495d048208cfc885c7edba1ad04ec0f8c9bc8c9ad42ea8db35aedcb807c696", func := "loop.example/g01104/laws.FnExactIsMove", spec := "fnExactIsMove", unfollowed := true, recurses := true, apart := false }
def FnExactIsMoveSaid : Prop := fnExactIsMoveRow.holds Try.pinned (OpenSpec.ofChange fnExactIsMoveSpec)

/-- ITS FALSE NEIGHBOUR: 'it returns false'. Refute it at one input. -/
def fnExactIsMoveWrong : ChangeSpec := { name := "fnExactIsMove", fn := fun _ => fun
  | [d1, d2] => { results := [.lit (.bool false)], args := [d1, d2] }
  | _ => none }
def FnExactIsMoveWrongFalsely : Prop := fnExactIsMoveRow.holds Try.pinned (OpenSpec.ofChange fnExactIsMoveWrong)

/-- 'laws.FnExactApplyMove': WHATEVER THE INPUT: true; the input reads as it did. -/
def fnExactApplyMoveSpec : ChangeSpec := { name := "fnExactApplyMove", fn := fun _ => fun
  | [d1, d2] => { results := [.lit (.bool true)], args := [d1, d2] }
  | _ => none }
def fnExactApplyMoveRow : OpenClaim := { program := "yteenmndgejeihaa", sum := "be495d048208cfc885c7edba1ad04ec0f8c9bc8c9ad42ea8db35aedcb807c696", func := "loop.example/g01104/laws.FnExactApplyMove", spec := "fnExactApplyMove", unfollowed := true, recurses := true, apart := false }
def FnExactApplyMoveSaid : Prop := fnExactApplyMoveRow.holds Try.pinned (OpenSpec.ofChange fnExactApplyMoveSpec)

/-- ITS FALSE NEIGHBOUR: 'it returns false'. Refute it at one input. -/
def fnExactApplyMoveWrong : ChangeSpec := { name := "fnExactApplyMove", fn := fun _ => fun
  | [d1, d2] => { results := [.lit (.bool false)], args := [d1, d2] }
  | _ => none }
def FnExactApplyMoveWrongFalsely : Prop := fnExactApplyMoveRow.holds Try.pinned (OpenSpec.ofChange fnExactApplyMoveWrong)

/-- 'laws.FnExactMoveSign': WHATEVER THE INPUT: true; the input reads as it did. -/
def fnExactMoveSignSpec : ChangeSpec := { name := "fnExactMoveSign", fn := fun _ => fun
  | [d] => { results := [.lit (.bool true)], args := [d] }
  | _ => none }
def fnExactMoveSignRow : OpenClaim := { program := "yteenmndgejeihaa", sum := "be495d048208cfc885c7edba1ad04ec0f8c9bc8c9ad42ea8db35aedcb807c696", func := "loop.example/g01104/laws.FnExactMoveSign", spec := "fnExactMoveSign", unfollowed := true, recurses := true, apart := false }
def FnExactMoveSignSaid : Prop := fnExactMoveSignRow.holds Try.pinned (OpenSpec.ofChange fnExactMoveSignSpec)

/-- ITS FALSE NEIGHBOUR: 'it returns false'. Refute it at one input. -/
def fnExactMoveSignWrong : ChangeSpec := { name := "fnExactMoveSign", fn := fun _ => fun
  | [d] => { results := [.lit (.bool false)], args := [d] }
  | _ => none }
def FnExactMoveSignWrongFalsely : Prop := fnExactMoveSignRow.holds Try.pinned (OpenSpec.ofChange fnExactMoveSignWrong)

/-- 'laws.FnExactMoveOrder': WHATEVER THE INPUT: true; the input reads as it did. -/
def fnExactMoveOrderSpec : ChangeSpec := { name := "fnExactMoveOrder", fn := fun _ => fun
  | [d] => { results := [.lit (.bool true)], args := [d] }
  | _ => none }
def fnExactMoveOrderRow : OpenClaim := { program := "yteenmndgejeihaa", sum := "be495d048208cfc885c7edba1ad04ec0f8c9bc8c9ad42ea8db35aedcb807c696", func := "loop.example/g01104/laws.FnExactMoveOrder", spec := "fnExactMoveOrder", unfollowed := true, recurses := true, apart := false }
def FnExactMoveOrderSaid : Prop := fnExactMoveOrderRow.holds Try.pinned (OpenSpec.ofChange fnExactMoveOrderSpec)

/-- ITS FALSE NEIGHBOUR: 'it returns false'. Refute it at one input. -/
def fnExactMoveOrderWrong : ChangeSpec := { name := "fnExactMoveOrder", fn := fun _ => fun
  | [d] => { results := [.lit (.bool false)], args := [d] }
  | _ => none }
def FnExactMoveOrderWrongFalsely : Prop := fnExactMoveOrderRow.holds Try.pinned (OpenSpec.ofChange fnExactMoveOrderWrong)

/-- 'laws.FnExactIsMoveList': WHATEVER THE INPUT: true; the input reads as it did. -/
def fnExactIsMoveListSpec : ChangeSpec := { name := "fnExactIsMoveList", fn := fun _ => fun
  | [d1, d2, d3] => { results := [.lit (.bool true)], args := [d1, d2, d3] }
  | _ => none }
def fnExactIsMoveListRow : OpenClaim := { program := "yteenmndgejeihaa", sum := "be495d048208cfc885c7edba1ad04ec0f8c9bc8c9ad42ea8db35aedcb807c696", func := "loop.example/g01104/laws.FnExactIsMoveList", spec := "fnExactIsMoveList", unfollowed := true, recurses := true, apart := false }
def FnExactIsMoveListSaid : Prop := fnExactIsMoveListRow.holds Try.pinned (OpenSpec.ofChange fnExactIsMoveListSpec)

/-- ITS FALSE NEIGHBOUR: 'it returns false'. Refute it at one input. -/
def fnExactIsMoveListWrong : ChangeSpec := { name := "fnExactIsMoveList", fn := fun _ => fun
  | [d1, d2, d3] => { results := [.lit (.bool false)], args := [d1, d2, d3] }
  | _ => none }
def FnExactIsMoveListWrongFalsely : Prop := fnExactIsMoveListRow.holds Try.pinned (OpenSpec.ofChange fnExactIsMoveListWrong)

/-- 'laws.FnExactMovesOf': WHATEVER THE INPUT: true; the input reads as it did. -/
def fnExactMovesOfSpec : ChangeSpec := { name := "fnExactMovesOf", fn := fun _ => fun
  | [d1, d2, d3] => { results := [.lit (.bool true)], args := [d1, d2, d3] }
  | _ => none }
def fnExactMovesOfRow : OpenClaim := { program := "yteenmndgejeihaa", sum := "be495d048208cfc885c7edba1ad04ec0f8c9bc8c9ad42ea8db35aedcb807c696", func := "loop.example/g01104/laws.FnExactMovesOf", spec := "fnExactMovesOf", unfollowed := true, recurses := true, apart := false }
def FnExactMovesOfSaid : Prop := fnExactMovesOfRow.holds Try.pinned (OpenSpec.ofChange fnExactMovesOfSpec)

/-- ITS FALSE NEIGHBOUR: 'it returns false'. Refute it at one input. -/
def fnExactMovesOfWrong : ChangeSpec := { name := "fnExactMovesOf", fn := fun _ => fun
  | [d1, d2, d3] => { results := [.lit (.bool false)], args := [d1, d2, d3] }
  | _ => none }
def FnExactMovesOfWrongFalsely : Prop := fnExactMovesOfRow.holds Try.pinned (OpenSpec.ofChange fnExactMovesOfWrong)

/-- 'laws.FnExactFollowMoves': WHATEVER THE INPUT: true; the input reads as it did. -/
def fnExactFollowMovesSpec : ChangeSpec := { name := "fnExactFollowMoves", fn := fun _ => fun
  | [d1, d2, d3] => { results := [.lit (.bool true)], args := [d1, d2, d3] }
  | _ => none }
def fnExactFollowMovesRow : OpenClaim := { program := "yteenmndgejeihaa", sum := "be495d048208cfc885c7edba1ad04ec0f8c9bc8c9ad42ea8db35aedcb807c696", func := "loop.example/g01104/laws.FnExactFollowMoves", spec := "fnExactFollowMoves", unfollowed := true, recurses := true, apart := false }
def FnExactFollowMovesSaid : Prop := fnExactFollowMovesRow.holds Try.pinned (OpenSpec.ofChange fnExactFollowMovesSpec)

/-- ITS FALSE NEIGHBOUR: 'it returns false'. Refute it at one input. -/
def fnExactFollowMovesWrong : ChangeSpec := { name := "fnExactFollowMoves", fn := fun _ => fun
  | [d1, d2, d3] => { results := [.lit (.bool false)], args := [d1, d2, d3] }
  | _ => none }
def FnExactFollowMovesWrongFalsely : Prop := fnExactFollowMovesRow.holds Try.pinned (OpenSpec.ofChange fnExactFollowMovesWrong)

/-- 'laws.FnExactGreedyList': WHATEVER THE INPUT: true; the input reads as it did. -/
def fnExactGreedyListSpec : ChangeSpec := { name := "fnExactGreedyList", fn := fun _ => fun
  | [d1, d2] => { results := [.lit (.bool true)], args := [d1, d2] }
  | _ => none }
def fnExactGreedyListRow : OpenClaim := { program := "yteenmndgejeihaa", sum := "be495d048208cfc885c7edba1ad04ec0f8c9bc8c9ad42ea8db35aedcb807c696", func := "loop.example/g01104/laws.FnExactGreedyList", spec := "fnExactGreedyList", unfollowed := true, recurses := true, apart := false }
def FnExactGreedyListSaid : Prop := fnExactGreedyListRow.holds Try.pinned (OpenSpec.ofChange fnExactGreedyListSpec)

/-- ITS FALSE NEIGHBOUR: 'it returns false'. Refute it at one input. -/
def fnExactGreedyListWrong : ChangeSpec := { name := "fnExactGreedyList", fn := fun _ => fun
  | [d1, d2] => { results := [.lit (.bool false)], args := [d1, d2] }
  | _ => none }
def FnExactGreedyListWrongFalsely : Prop := fnExactGreedyListRow.holds Try.pinned (OpenSpec.ofChange fnExactGreedyListWrong)

/-- 'laws.FnExactReachCount': WHATEVER THE INPUT: true; the input reads as it did. -/
def fnExactReachCountSpec : ChangeSpec := { name := "fnExactReachCount", fn := fun _ => fun
  | [d1, d2] => { results := [.lit (.bool true)], args := [d1, d2] }
  | _ => none }
def fnExactReachCountRow : OpenClaim := { program := "yteenmndgejeihaa", sum := "be495d048208cfc885c7edba1ad04ec0f8c9bc8c9ad42ea8db35aedcb807c696", func := "loop.example/g01104/laws.FnExactReachCount", spec := "fnExactReachCount", unfollowed := true, recurses := true, apart := false }
def FnExactReachCountSaid : Prop := fnExactReachCountRow.holds Try.pinned (OpenSpec.ofChange fnExactReachCountSpec)

/-- ITS FALSE NEIGHBOUR: 'it returns false'. Refute it at one input. -/
def fnExactReachCountWrong : ChangeSpec := { name := "fnExactReachCount", fn := fun _ => fun
  | [d1, d2] => { results := [.lit (.bool false)], args := [d1, d2] }
  | _ => none }
def FnExactReachCountWrongFalsely : Prop := fnExactReachCountRow.holds Try.pinned (OpenSpec.ofChange fnExactReachCountWrong)

/-- 'laws.FnExactAreEven': WHATEVER THE INPUT: true; the input reads as it did. -/
def fnExactAreEvenSpec : ChangeSpec := { name := "fnExactAreEven", fn := fun _ => fun
  | [d1, d2] => { results := [.lit (.bool true)], args := [d1, d2] }
  | _ => none }
def fnExactAreEvenRow : OpenClaim := { program := "yteenmndgejeihaa", sum := "be495d048208cfc885c7edba1ad04ec0f8c9bc8c9ad42ea8db35aedcb807c696", func := "loop.example/g01104/laws.FnExactAreEven", spec := "fnExactAreEven", unfollowed := true, recurses := true, apart := false }
def FnExactAreEvenSaid : Prop := fnExactAreEvenRow.holds Try.pinned (OpenSpec.ofChange fnExactAreEvenSpec)

/-- ITS FALSE NEIGHBOUR: 'it returns false'. Refute it at one input. -/
def fnExactAreEvenWrong : ChangeSpec := { name := "fnExactAreEven", fn := fun _ => fun
  | [d1, d2] => { results := [.lit (.bool false)], args := [d1, d2] }
  | _ => none }
def FnExactAreEvenWrongFalsely : Prop := fnExactAreEvenRow.holds Try.pinned (OpenSpec.ofChange fnExactAreEvenWrong)

/-- 'laws.FnExactFirstPath': WHATEVER THE INPUT: true; the input reads as it did. -/
def fnExactFirstPathSpec : ChangeSpec := { name := "fnExactFirstPath", fn := fun _ => fun
  | [d1, d2, d3] => { results := [.lit (.bool true)], args := [d1, d2, d3] }
  | _ => none }
def fnExactFirstPathRow : OpenClaim := { program := "yteenmndgejeihaa", sum := "be495d048208cfc885c7edba1ad04ec0f8c9bc8c9ad42ea8db35aedcb807c696", func := "loop.example/g01104/laws.FnExactFirstPath", spec := "fnExactFirstPath", unfollowed := true, recurses := true, apart := false }
def FnExactFirstPathSaid : Prop := fnExactFirstPathRow.holds Try.pinned (OpenSpec.ofChange fnExactFirstPathSpec)

/-- ITS FALSE NEIGHBOUR: 'it returns false'. Refute it at one input. -/
def fnExactFirstPathWrong : ChangeSpec := { name := "fnExactFirstPath", fn := fun _ => fun
  | [d1, d2, d3] => { results := [.lit (.bool false)], args := [d1, d2, d3] }
  | _ => none }
def FnExactFirstPathWrongFalsely : Prop := fnExactFirstPathRow.holds Try.pinned (OpenSpec.ofChange fnExactFirstPathWrong)

/-- 'laws.FnExactDistancesFrom': WHATEVER THE INPUT: true; the input reads as it did. -/
def fnExactDistancesFromSpec : ChangeSpec := { name := "fnExactDistancesFrom", fn := fun _ => fun
  | [d1, d2] => { results := [.lit (.bool true)], args := [d1, d2] }
  | _ => none }
def fnExactDistancesFromRow : OpenClaim := { program := "yteenmndgejeihaa", sum := "be495d048208cfc885c7edba1ad04ec0f8c9bc8c9ad42ea8db35aedcb807c696", func := "loop.example/g01104/laws.FnExactDistancesFrom", spec := "fnExactDistancesFrom", unfollowed := true, recurses := true, apart := false }
def FnExactDistancesFromSaid : Prop := fnExactDistancesFromRow.holds Try.pinned (OpenSpec.ofChange fnExactDistancesFromSpec)

/-- ITS FALSE NEIGHBOUR: 'it returns false'. Refute it at one input. -/
def fnExactDistancesFromWrong : ChangeSpec := { name := "fnExactDistancesFrom", fn := fun _ => fun
  | [d1, d2] => { results := [.lit (.bool false)], args := [d1, d2] }
  | _ => none }
def FnExactDistancesFromWrongFalsely : Prop := fnExactDistancesFromRow.holds Try.pinned (OpenSpec.ofChange fnExactDistancesFromWrong)

/- THE SECOND FORM. 'bulk': how many values and letters a reading holds, each counted each time it is reached (what is shared counts as often as it is met; a slice's spare places count too). A statement '..UptoSaid' is the law's where the arguments, and the package variables that the reading takes, are together of bulk at most 1048576: NARROWER than '..Said'. Prove '..Said' where nothing that the law and all that it calls make is longer than what came in: it says more and counts as full. Else prove '..UptoSaid'. A law counts once. -/
mutual
def uptoBulk {H : Type} : DataW H → Nat
  | .lit (.string bytes) => bytes.length + 1
  | .lit _ => 1
  | .nil => 1
  | .ptr d => uptoBulk d + 1
  | .slice elems spare => uptoBulkAll elems + uptoBulkAll spare + 1
  | .agg parts => uptoBulkAll parts + 1
  | .iface _ d => uptoBulk d + 1
  | .map entries => uptoBulkEntries entries + 1
  | .held _ => 1
def uptoBulkAll {H : Type} : List (DataW H) → Nat
  | [] => 0
  | d :: r => uptoBulk d + uptoBulkAll r
def uptoBulkEntries {H : Type} : List (Lit × DataW H) → Nat
  | [] => 0
  | x :: r => uptoBulkEntry x + uptoBulkEntries r
def uptoBulkEntry {H : Type} : Lit × DataW H → Nat
  | (.string bytes, d) => bytes.length + uptoBulk d + 1
  | (_, d) => uptoBulk d + 1
 end
def uptoSmall : (H : Type) → List (DataW H) → Bool := fun _ ds => decide (uptoBulkAll ds ≤ 1048576)
def OpenSpec.upto (s : _root_.Go.ChangeSpec) : _root_.Go.OpenSpec := { _root_.Go.OpenSpec.ofChange s with cond := some uptoSmall }

/-- 'laws.FnExactTrotterAt', WHERE WHAT IT READS IS OF BULK AT MOST 1048576: true; the input reads as it did. -/
def fnExactTrotterAtUptoRow : OpenClaim := { program := "yteenmndgejeihaa", sum := "be495d048208cfc885c7edba1ad04ec0f8c9bc8c9ad42ea8db35aedcb807c696", func := "loop.example/g01104/laws.FnExactTrotterAt", spec := "fnExactTrotterAt", inPlace := ["slices.overlaps[int]"], recurses := true, apart := false, narrowed := true }
def FnExactTrotterAtUptoSaid : Prop := fnExactTrotterAtUptoRow.holds Try.pinned (OpenSpec.upto fnExactTrotterAtSpec)

/-- 'laws.FnExactTrotterRank', WHERE WHAT IT READS IS OF BULK AT MOST 1048576: true; the input reads as it did. -/
def fnExactTrotterRankUptoRow : OpenClaim := { program := "yteenmndgejeihaa", sum := "be495d048208cfc885c7edba1ad04ec0f8c9bc8c9ad42ea8db35aedcb807c696", func := "loop.example/g01104/laws.FnExactTrotterRank", spec := "fnExactTrotterRank", unfollowed := true, recurses := true, apart := false, narrowed := true }
def FnExactTrotterRankUptoSaid : Prop := fnExactTrotterRankUptoRow.holds Try.pinned (OpenSpec.upto fnExactTrotterRankSpec)

/-- 'laws.FnExactNextTrotter', WHERE WHAT IT READS IS OF BULK AT MOST 1048576: true; the input reads as it did. -/
def fnExactNextTrotterUptoRow : OpenClaim := { program := "yteenmndgejeihaa", sum := "be495d048208cfc885c7edba1ad04ec0f8c9bc8c9ad42ea8db35aedcb807c696", func := "loop.example/g01104/laws.FnExactNextTrotter", spec := "fnExactNextTrotter", inPlace := ["slices.overlaps[int]"], unfollowed := true, recurses := true, apart := false, narrowed := true }
def FnExactNextTrotterUptoSaid : Prop := fnExactNextTrotterUptoRow.holds Try.pinned (OpenSpec.upto fnExactNextTrotterSpec)

/-- 'laws.FnExactIsMove', WHERE WHAT IT READS IS OF BULK AT MOST 1048576: true; the input reads as it did. -/
def fnExactIsMoveUptoRow : OpenClaim := { program := "yteenmndgejeihaa", sum := "be495d048208cfc885c7edba1ad04ec0f8c9bc8c9ad42ea8db35aedcb807c696", func := "loop.example/g01104/laws.FnExactIsMove", spec := "fnExactIsMove", unfollowed := true, recurses := true, apart := false, narrowed := true }
def FnExactIsMoveUptoSaid : Prop := fnExactIsMoveUptoRow.holds Try.pinned (OpenSpec.upto fnExactIsMoveSpec)

/-- 'laws.FnExactApplyMove', WHERE WHAT IT READS IS OF BULK AT MOST 1048576: true; the input reads as it did. -/
def fnExactApplyMoveUptoRow : OpenClaim := { program := "yteenmndgejeihaa", sum := "be495d048208cfc885c7edba1ad04ec0f8c9bc8c9ad42ea8db35aedcb807c696", func := "loop.example/g01104/laws.FnExactApplyMove", spec := "fnExactApplyMove", unfollowed := true, recurses := true, apart := false, narrowed := true }
def FnExactApplyMoveUptoSaid : Prop := fnExactApplyMoveUptoRow.holds Try.pinned (OpenSpec.upto fnExactApplyMoveSpec)

/-- 'laws.FnExactMoveSign', WHERE WHAT IT READS IS OF BULK AT MOST 1048576: true; the input reads as it did. -/
def fnExactMoveSignUptoRow : OpenClaim := { program := "yteenmndgejeihaa", sum := "be495d048208cfc885c7edba1ad04ec0f8c9bc8c9ad42ea8db35aedcb807c696", func := "loop.example/g01104/laws.FnExactMoveSign", spec := "fnExactMoveSign", unfollowed := true, recurses := true, apart := false, narrowed := true }
def FnExactMoveSignUptoSaid : Prop := fnExactMoveSignUptoRow.holds Try.pinned (OpenSpec.upto fnExactMoveSignSpec)

/-- 'laws.FnExactMoveOrder', WHERE WHAT IT READS IS OF BULK AT MOST 1048576: true; the input reads as it did. -/
def fnExactMoveOrderUptoRow : OpenClaim := { program := "yteenmndgejeihaa", sum := "be495d048208cfc885c7edba1ad04ec0f8c9bc8c9ad42ea8db35aedcb807c696", func := "loop.example/g01104/laws.FnExactMoveOrder", spec := "fnExactMoveOrder", unfollowed := true, recurses := true, apart := false, narrowed := true }
def FnExactMoveOrderUptoSaid : Prop := fnExactMoveOrderUptoRow.holds Try.pinned (OpenSpec.upto fnExactMoveOrderSpec)

/-- 'laws.FnExactIsMoveList', WHERE WHAT IT READS IS OF BULK AT MOST 1048576: true; the input reads as it did. -/
def fnExactIsMoveListUptoRow : OpenClaim := { program := "yteenmndgejeihaa", sum := "be495d048208cfc885c7edba1ad04ec0f8c9bc8c9ad42ea8db35aedcb807c696", func := "loop.example/g01104/laws.FnExactIsMoveList", spec := "fnExactIsMoveList", unfollowed := true, recurses := true, apart := false, narrowed := true }
def FnExactIsMoveListUptoSaid : Prop := fnExactIsMoveListUptoRow.holds Try.pinned (OpenSpec.upto fnExactIsMoveListSpec)

/-- 'laws.FnExactMovesOf', WHERE WHAT IT READS IS OF BULK AT MOST 1048576: true; the input reads as it did. -/
def fnExactMovesOfUptoRow : OpenClaim := { program := "yteenmndgejeihaa", sum := "be495d048208cfc885c7edba1ad04ec0f8c9bc8c9ad42ea8db35aedcb807c696", func := "loop.example/g01104/laws.FnExactMovesOf", spec := "fnExactMovesOf", unfollowed := true, recurses := true, apart := false, narrowed := true }
def FnExactMovesOfUptoSaid : Prop := fnExactMovesOfUptoRow.holds Try.pinned (OpenSpec.upto fnExactMovesOfSpec)

/-- 'laws.FnExactFollowMoves', WHERE WHAT IT READS IS OF BULK AT MOST 1048576: true; the input reads as it did. -/
def fnExactFollowMovesUptoRow : OpenClaim := { program := "yteenmndgejeihaa", sum := "be495d048208cfc885c7edba1ad04ec0f8c9bc8c9ad42ea8db35aedcb807c696", func := "loop.example/g01104/laws.FnExactFollowMoves", spec := "fnExactFollowMoves", unfollowed := true, recurses := true, apart := false, narrowed := true }
def FnExactFollowMovesUptoSaid : Prop := fnExactFollowMovesUptoRow.holds Try.pinned (OpenSpec.upto fnExactFollowMovesSpec)

/-- 'laws.FnExactGreedyList', WHERE WHAT IT READS IS OF BULK AT MOST 1048576: true; the input reads as it did. -/
def fnExactGreedyListUptoRow : OpenClaim := { program := "yteenmndgejeihaa", sum := "be495d048208cfc885c7edba1ad04ec0f8c9bc8c9ad42ea8db35aedcb807c696", func := "loop.example/g01104/laws.FnExactGreedyList", spec := "fnExactGreedyList", unfollowed := true, recurses := true, apart := false, narrowed := true }
def FnExactGreedyListUptoSaid : Prop := fnExactGreedyListUptoRow.holds Try.pinned (OpenSpec.upto fnExactGreedyListSpec)

/-- 'laws.FnExactReachCount', WHERE WHAT IT READS IS OF BULK AT MOST 1048576: true; the input reads as it did. -/
def fnExactReachCountUptoRow : OpenClaim := { program := "yteenmndgejeihaa", sum := "be495d048208cfc885c7edba1ad04ec0f8c9bc8c9ad42ea8db35aedcb807c696", func := "loop.example/g01104/laws.FnExactReachCount", spec := "fnExactReachCount", unfollowed := true, recurses := true, apart := false, narrowed := true }
def FnExactReachCountUptoSaid : Prop := fnExactReachCountUptoRow.holds Try.pinned (OpenSpec.upto fnExactReachCountSpec)

/-- 'laws.FnExactAreEven', WHERE WHAT IT READS IS OF BULK AT MOST 1048576: true; the input reads as it did. -/
def fnExactAreEvenUptoRow : OpenClaim := { program := "yteenmndgejeihaa", sum := "be495d048208cfc885c7edba1ad04ec0f8c9bc8c9ad42ea8db35aedcb807c696", func := "loop.example/g01104/laws.FnExactAreEven", spec := "fnExactAreEven", unfollowed := true, recurses := true, apart := false, narrowed := true }
def FnExactAreEvenUptoSaid : Prop := fnExactAreEvenUptoRow.holds Try.pinned (OpenSpec.upto fnExactAreEvenSpec)

/-- 'laws.FnExactFirstPath', WHERE WHAT IT READS IS OF BULK AT MOST 1048576: true; the input reads as it did. -/
def fnExactFirstPathUptoRow : OpenClaim := { program := "yteenmndgejeihaa", sum := "be495d048208cfc885c7edba1ad04ec0f8c9bc8c9ad42ea8db35aedcb807c696", func := "loop.example/g01104/laws.FnExactFirstPath", spec := "fnExactFirstPath", unfollowed := true, recurses := true, apart := false, narrowed := true }
def FnExactFirstPathUptoSaid : Prop := fnExactFirstPathUptoRow.holds Try.pinned (OpenSpec.upto fnExactFirstPathSpec)

/-- 'laws.FnExactDistancesFrom', WHERE WHAT IT READS IS OF BULK AT MOST 1048576: true; the input reads as it did. -/
def fnExactDistancesFromUptoRow : OpenClaim := { program := "yteenmndgejeihaa", sum := "be495d048208cfc885c7edba1ad04ec0f8c9bc8c9ad42ea8db35aedcb807c696", func := "loop.example/g01104/laws.FnExactDistancesFrom", spec := "fnExactDistancesFrom", unfollowed := true, recurses := true, apart := false, narrowed := true }
def FnExactDistancesFromUptoSaid : Prop := fnExactDistancesFromUptoRow.holds Try.pinned (OpenSpec.upto fnExactDistancesFromSpec)

end Rows
end Go.Proofs.Yteenmndgejeihaa
