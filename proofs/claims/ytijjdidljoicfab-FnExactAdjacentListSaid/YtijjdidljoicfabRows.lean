/-
  No cell of these rows narrows 'for every input' (looked for: loops, veiled, ifaces, maps, wideKeys, modest, calm, conditions, laid).
  DERIVED. THE GIVEN ROWS OF THIS SEAT. 6 by the template 'for every input the law returns true; each argument reads behind the call as it read before'; 0 by the template 'total and deterministic' (their statements: YtijjdidljoicfabTotals.lean).
  GIVEN WITH THE SEED: the statements are not yours to turn. If you find one false, say at which input.
  Laid BY PROGRAM, IN A SANDBOX (cutbox-rows.mjs): the forced cells as the released guide's own fill.sh prints them over the translation fd718577655684a1… (all of the seat's roots in one cut). By AI agents, Wed Nov 11 2026. No macro, syntax, notation, axiom, sorry.
-/
import Derived.Test.YtijjdidljoicfabChecked
import GoSem.Claim
import GoSem.ClaimJoined
import GoSem.ClaimMapViews
import Derived.JoinedTies
import Derived.KernelRfl
namespace Go.Proofs.Ytijjdidljoicfab
/- THE CELL 'sum', in the pinned program and in every row, IS THE sha256 OF THE DUMP (.gsa) THAT YtijjdidljoicfabProg.lean LOADS. Nothing in Lean hashes anything: it is a label: what it is worth is what the hold of that sum in a sandbox is worth. -/
noncomputable def Try.pinned : Pinned := { name := "ytijjdidljoicfab", sum := "fd718577655684a15781555bd90eb083b71a2547edf0ef5c0bc2f5440b0c4e19", checked := Try.checked }
namespace Rows
def none {H : Type} : Left H := { results := [], args := [] }

/-- 'laws.FnExactCoolList': WHATEVER THE INPUT: true; the input reads as it did. -/
def fnExactCoolListSpec : ChangeSpec := { name := "fnExactCoolList", fn := fun _ => fun
  | [d1, d2] => { results := [.lit (.bool true)], args := [d1, d2] }
  | _ => none }
def fnExactCoolListRow : OpenClaim := { program := "ytijjdidljoicfab", sum := "fd718577655684a15781555bd90eb083b71a2547edf0ef5c0bc2f5440b0c4e19", func := "loop.example/g01104/laws.FnExactCoolList", spec := "fnExactCoolList", unfollowed := true, recurses := true, apart := false }
def FnExactCoolListSaid : Prop := fnExactCoolListRow.holds Try.pinned (OpenSpec.ofChange fnExactCoolListSpec)

/-- ITS FALSE NEIGHBOUR: 'it returns false'. Refute it at one input. -/
def fnExactCoolListWrong : ChangeSpec := { name := "fnExactCoolList", fn := fun _ => fun
  | [d1, d2] => { results := [.lit (.bool false)], args := [d1, d2] }
  | _ => none }
def FnExactCoolListWrongFalsely : Prop := fnExactCoolListRow.holds Try.pinned (OpenSpec.ofChange fnExactCoolListWrong)

/-- 'laws.FnExactCoolRank': WHATEVER THE INPUT: true; the input reads as it did. -/
def fnExactCoolRankSpec : ChangeSpec := { name := "fnExactCoolRank", fn := fun _ => fun
  | [d] => { results := [.lit (.bool true)], args := [d] }
  | _ => none }
def fnExactCoolRankRow : OpenClaim := { program := "ytijjdidljoicfab", sum := "fd718577655684a15781555bd90eb083b71a2547edf0ef5c0bc2f5440b0c4e19", func := "loop.example/g01104/laws.FnExactCoolRank", spec := "fnExactCoolRank", unfollowed := true, recurses := true, apart := false }
def FnExactCoolRankSaid : Prop := fnExactCoolRankRow.holds Try.pinned (OpenSpec.ofChange fnExactCoolRankSpec)

/-- ITS FALSE NEIGHBOUR: 'it returns false'. Refute it at one input. -/
def fnExactCoolRankWrong : ChangeSpec := { name := "fnExactCoolRank", fn := fun _ => fun
  | [d] => { results := [.lit (.bool false)], args := [d] }
  | _ => none }
def FnExactCoolRankWrongFalsely : Prop := fnExactCoolRankRow.holds Try.pinned (OpenSpec.ofChange fnExactCoolRankWrong)

/-- 'laws.FnExactAdjacentHalves': WHATEVER THE INPUT: true; the input reads as it did. -/
def fnExactAdjacentHalvesSpec : ChangeSpec := { name := "fnExactAdjacentHalves", fn := fun _ => fun
  | [d1, d2] => { results := [.lit (.bool true)], args := [d1, d2] }
  | _ => none }
def fnExactAdjacentHalvesRow : OpenClaim := { program := "ytijjdidljoicfab", sum := "fd718577655684a15781555bd90eb083b71a2547edf0ef5c0bc2f5440b0c4e19", func := "loop.example/g01104/laws.FnExactAdjacentHalves", spec := "fnExactAdjacentHalves", unfollowed := true, recurses := true, apart := false }
def FnExactAdjacentHalvesSaid : Prop := fnExactAdjacentHalvesRow.holds Try.pinned (OpenSpec.ofChange fnExactAdjacentHalvesSpec)

/-- ITS FALSE NEIGHBOUR: 'it returns false'. Refute it at one input. -/
def fnExactAdjacentHalvesWrong : ChangeSpec := { name := "fnExactAdjacentHalves", fn := fun _ => fun
  | [d1, d2] => { results := [.lit (.bool false)], args := [d1, d2] }
  | _ => none }
def FnExactAdjacentHalvesWrongFalsely : Prop := fnExactAdjacentHalvesRow.holds Try.pinned (OpenSpec.ofChange fnExactAdjacentHalvesWrong)

/-- 'laws.FnExactAdjacentList': WHATEVER THE INPUT: true; the input reads as it did. -/
def fnExactAdjacentListSpec : ChangeSpec := { name := "fnExactAdjacentList", fn := fun _ => fun
  | [d1, d2] => { results := [.lit (.bool true)], args := [d1, d2] }
  | _ => none }
def fnExactAdjacentListRow : OpenClaim := { program := "ytijjdidljoicfab", sum := "fd718577655684a15781555bd90eb083b71a2547edf0ef5c0bc2f5440b0c4e19", func := "loop.example/g01104/laws.FnExactAdjacentList", spec := "fnExactAdjacentList", unfollowed := true, recurses := true, apart := false }
def FnExactAdjacentListSaid : Prop := fnExactAdjacentListRow.holds Try.pinned (OpenSpec.ofChange fnExactAdjacentListSpec)

/-- ITS FALSE NEIGHBOUR: 'it returns false'. Refute it at one input. -/
def fnExactAdjacentListWrong : ChangeSpec := { name := "fnExactAdjacentList", fn := fun _ => fun
  | [d1, d2] => { results := [.lit (.bool false)], args := [d1, d2] }
  | _ => none }
def FnExactAdjacentListWrongFalsely : Prop := fnExactAdjacentListRow.holds Try.pinned (OpenSpec.ofChange fnExactAdjacentListWrong)

/-- 'laws.FnExactIsAdjacentList': WHATEVER THE INPUT: true; the input reads as it did. -/
def fnExactIsAdjacentListSpec : ChangeSpec := { name := "fnExactIsAdjacentList", fn := fun _ => fun
  | [d1, d2, d3] => { results := [.lit (.bool true)], args := [d1, d2, d3] }
  | _ => none }
def fnExactIsAdjacentListRow : OpenClaim := { program := "ytijjdidljoicfab", sum := "fd718577655684a15781555bd90eb083b71a2547edf0ef5c0bc2f5440b0c4e19", func := "loop.example/g01104/laws.FnExactIsAdjacentList", spec := "fnExactIsAdjacentList", unfollowed := true, recurses := true, apart := false }
def FnExactIsAdjacentListSaid : Prop := fnExactIsAdjacentListRow.holds Try.pinned (OpenSpec.ofChange fnExactIsAdjacentListSpec)

/-- ITS FALSE NEIGHBOUR: 'it returns false'. Refute it at one input. -/
def fnExactIsAdjacentListWrong : ChangeSpec := { name := "fnExactIsAdjacentList", fn := fun _ => fun
  | [d1, d2, d3] => { results := [.lit (.bool false)], args := [d1, d2, d3] }
  | _ => none }
def FnExactIsAdjacentListWrongFalsely : Prop := fnExactIsAdjacentListRow.holds Try.pinned (OpenSpec.ofChange fnExactIsAdjacentListWrong)

/-- 'laws.FnExactComplementsOf': WHATEVER THE INPUT: true; the input reads as it did. -/
def fnExactComplementsOfSpec : ChangeSpec := { name := "fnExactComplementsOf", fn := fun _ => fun
  | [d1, d2] => { results := [.lit (.bool true)], args := [d1, d2] }
  | _ => none }
def fnExactComplementsOfRow : OpenClaim := { program := "ytijjdidljoicfab", sum := "fd718577655684a15781555bd90eb083b71a2547edf0ef5c0bc2f5440b0c4e19", func := "loop.example/g01104/laws.FnExactComplementsOf", spec := "fnExactComplementsOf", unfollowed := true, recurses := true, apart := false }
def FnExactComplementsOfSaid : Prop := fnExactComplementsOfRow.holds Try.pinned (OpenSpec.ofChange fnExactComplementsOfSpec)

/-- ITS FALSE NEIGHBOUR: 'it returns false'. Refute it at one input. -/
def fnExactComplementsOfWrong : ChangeSpec := { name := "fnExactComplementsOf", fn := fun _ => fun
  | [d1, d2] => { results := [.lit (.bool false)], args := [d1, d2] }
  | _ => none }
def FnExactComplementsOfWrongFalsely : Prop := fnExactComplementsOfRow.holds Try.pinned (OpenSpec.ofChange fnExactComplementsOfWrong)

/- THE SECOND FORM. 'bulk': how many values and letters a reading holds, each counted each time it is reached (what is shared counts as often as it is met; a slice's spare places count too). A statement '..UptoSaid' is the law's where the arguments, and the package variables that the reading takes, are together of bulk at most 1048576: NARROWER than '..Said'. Prove '..Said' where nothing that the law and all that it calls make is longer than what came in: it says more and counts as full. Else prove '..UptoSaid'. A law counts once. -/
mutual
def uptoBulk {H : Type} : DataW H → Nat
  | .lit (.string bytes) => bytes.length + 1
  | .lit _ => 1
  | .nil => 1
  | .ptr d => uptoBulk d + 1
  | .slice elems spare => uptoBulkAll elems + uptoBulkAll spare + 1
  | .agg parts => uptoBulkAll parts + 1
  | .iface _ d => uptoBulk d + 1
  | .map entries => uptoBulkEntries entries + 1
  | .held _ => 1
def uptoBulkAll {H : Type} : List (DataW H) → Nat
  | [] => 0
  | d :: r => uptoBulk d + uptoBulkAll r
def uptoBulkEntries {H : Type} : List (Lit × DataW H) → Nat
  | [] => 0
  | x :: r => uptoBulkEntry x + uptoBulkEntries r
def uptoBulkEntry {H : Type} : Lit × DataW H → Nat
  | (.string bytes, d) => bytes.length + uptoBulk d + 1
  | (_, d) => uptoBulk d + 1
 end
def uptoSmall : (H : Type) → List (DataW H) → Bool := fun _ ds => decide (uptoBulkAll ds ≤ 1048576)
def OpenSpec.upto (s : _root_.Go.ChangeSpec) : _root_.Go.OpenSpec := { _root_.Go.OpenSpec.ofChange s with cond := some uptoSmall }

/-- 'laws.FnExactCoolList', WHERE WHAT IT READS IS OF BULK AT MOST 1048576: true; the input reads as it did. -/
def fnExactCoolListUptoRow : OpenClaim := { program := "ytijjdidljoicfab", sum := "fd718577655684a15781555bd90eb083b71a2547edf0ef5c0bc2f5440b0c4e19", func := "loop.example/g01104/laws.FnExactCoolList", spec := "fnExactCoolList", unfollowed := true, recurses := true, apart := false, narrowed := true }
def FnExactCoolListUptoSaid : Prop := fnExactCoolListUptoRow.holds Try.pinned (OpenSpec.upto fnExactCoolListSpec)

/-- 'laws.FnExactCoolRank', WHERE WHAT IT READS IS OF BULK AT MOST 1048576: true; the input reads as it did. -/
def fnExactCoolRankUptoRow : OpenClaim := { program := "ytijjdidljoicfab", sum := "fd718577655684a15781555bd90eb083b71a2547edf0ef5c0bc2f5440b0c4e19", func := "loop.example/g01104/laws.FnExactCoolRank", spec := "fnExactCoolRank", unfollowed := true, recurses := true, apart := false, narrowed := true }
def FnExactCoolRankUptoSaid : Prop := fnExactCoolRankUptoRow.holds Try.pinned (OpenSpec.upto fnExactCoolRankSpec)

/-- 'laws.FnExactAdjacentHalves', WHERE WHAT IT READS IS OF BULK AT MOST 1048576: true; the input reads as it did. -/
def fnExactAdjacentHalvesUptoRow : OpenClaim := { program := "ytijjdidljoicfab", sum := "fd718577655684a15781555bd90eb083b71a2547edf0ef5c0bc2f5440b0c4e19", func := "loop.example/g01104/laws.FnExactAdjacentHalves", spec := "fnExactAdjacentHalves", unfollowed := true, recurses := true, apart := false, narrowed := true }
def FnExactAdjacentHalvesUptoSaid : Prop := fnExactAdjacentHalvesUptoRow.holds Try.pinned (OpenSpec.upto fnExactAdjacentHalvesSpec)

/-- 'laws.FnExactAdjacentList', WHERE WHAT IT READS IS OF BULK AT MOST 1048576: true; the input reads as it did. -/
def fnExactAdjacentListUptoRow : OpenClaim := { program := "ytijjdidljoicfab", sum := "fd718577655684a15781555bd90eb083b71a2547edf0ef5c0bc2f5440b0c4e19", func := "loop.example/g01104/laws.FnExactAdjacentList", spec := "fnExactAdjacentList", unfollowed := true, recurses := true, apart := false, narrowed := true }
def FnExactAdjacentListUptoSaid : Prop := fnExactAdjacentListUptoRow.holds Try.pinned (OpenSpec.upto fnExactAdjacentListSpec)

/-- 'laws.FnExactIsAdjacentList', WHERE WHAT IT READS IS OF BULK AT MOST 1048576: true; the input reads as it did. -/
def fnExactIsAdjacentListUptoRow : OpenClaim := { program := "ytijjdidljoicfab", sum := "fd718577655684a15781555bd90eb083b71a2547edf0ef5c0bc2f5440b0c4e19", func := "loop.example/g01104/laws.FnExactIsAdjacentList", spec := "fnExactIsAdjacentList", unfollowed := true, recurses := true, apart := false, narrowed := true }
def FnExactIsAdjacentListUptoSaid : Prop := fnExactIsAdjacentListUptoRow.holds Try.pinned (OpenSpec.upto fnExactIsAdjacentListSpec)

/-- 'laws.FnExactComplementsOf', WHERE WHAT IT READS IS OF BULK AT MOST 1048576: true; the input reads as it did. -/
def fnExactComplementsOfUptoRow : OpenClaim := { program := "ytijjdidljoicfab", sum := "fd718577655684a15781555bd90eb083b71a2547edf0ef5c0bc2f5440b0c4e19", func := "loop.example/g01104/laws.FnExactComplementsOf", spec := "fnExactComplementsOf", unfollowed := true, recurses := true, apart := false, narrowed := true }
def FnExactComplementsOfUptoSaid : Prop := fnExactComplementsOfUptoRow.holds Try.pinned (OpenSpec.upto fnExactComplementsOfSpec)

end Rows
end Go.Proofs.Ytijjdidljoicfab
