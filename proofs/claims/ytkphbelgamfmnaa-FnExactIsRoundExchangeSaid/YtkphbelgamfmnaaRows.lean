/-
  No cell of these rows narrows 'for every input' (looked for: loops, veiled, ifaces, maps, wideKeys, modest, calm, conditions, laid).
  DERIVED. THE GIVEN ROWS OF THIS SEAT. 5 by the template 'for every input the law returns true; each argument reads behind the call as it read before'; 0 by the template 'total and deterministic' (their statements: YtkphbelgamfmnaaTotals.lean).
  GIVEN WITH THE SEED: the statements are not yours to turn. If you find one false, say at which input.
  Laid BY PROGRAM, IN A SANDBOX (cutbox-rows.mjs): the forced cells as the released guide's own fill.sh prints them over the translation a7b6cea3ebc6359e… (all of the seat's roots in one cut). By AI agents, Wed Nov 11 2026. No macro, syntax, notation, axiom, sorry.
-/
import Derived.Test.YtkphbelgamfmnaaChecked
import GoSem.Claim
import GoSem.ClaimJoined
import GoSem.ClaimMapViews
import Derived.JoinedTies
import Derived.KernelRfl
namespace Go.Proofs.Ytkphbelgamfmnaa
/- THE CELL 'sum', in the pinned program and in every row, IS THE sha256 OF THE DUMP (.gsa) THAT YtkphbelgamfmnaaProg.lean LOADS. Nothing in Lean hashes anything: it is a label: what it is worth is what the hold of that sum in a sandbox is worth. -/
noncomputable def Try.pinned : Pinned := { name := "ytkphbelgamfmnaa", sum := "a7b6cea3ebc6359ef12e64cc40e897c46944b24c7425dc3abde5b129d7150820", checked := Try.checked }
namespace Rows
def none {H : Type} : Left H := { results := [], args := [] }

/-- 'laws.FnExactPermutationRank': WHATEVER THE INPUT: true; the input reads as it did. -/
def fnExactPermutationRankSpec : ChangeSpec := { name := "fnExactPermutationRank", fn := fun _ => fun
  | [d] => { results := [.lit (.bool true)], args := [d] }
  | _ => none }
def fnExactPermutationRankRow : OpenClaim := { program := "ytkphbelgamfmnaa", sum := "a7b6cea3ebc6359ef12e64cc40e897c46944b24c7425dc3abde5b129d7150820", func := "loop.example/g01104/laws.FnExactPermutationRank", spec := "fnExactPermutationRank", unfollowed := true, recurses := true, apart := false }
def FnExactPermutationRankSaid : Prop := fnExactPermutationRankRow.holds Try.pinned (OpenSpec.ofChange fnExactPermutationRankSpec)

/-- ITS FALSE NEIGHBOUR: 'it returns false'. Refute it at one input. -/
def fnExactPermutationRankWrong : ChangeSpec := { name := "fnExactPermutationRank", fn := fun _ => fun
  | [d] => { results := [.lit (.bool false)], args := [d] }
  | _ => none }
def FnExactPermutationRankWrongFalsely : Prop := fnExactPermutationRankRow.holds Try.pinned (OpenSpec.ofChange fnExactPermutationRankWrong)

/-- 'laws.FnExactIsMixedList': WHATEVER THE INPUT: true; the input reads as it did. -/
def fnExactIsMixedListSpec : ChangeSpec := { name := "fnExactIsMixedList", fn := fun _ => fun
  | [d1, d2] => { results := [.lit (.bool true)], args := [d1, d2] }
  | _ => none }
def fnExactIsMixedListRow : OpenClaim := { program := "ytkphbelgamfmnaa", sum := "a7b6cea3ebc6359ef12e64cc40e897c46944b24c7425dc3abde5b129d7150820", func := "loop.example/g01104/laws.FnExactIsMixedList", spec := "fnExactIsMixedList", unfollowed := true, recurses := true, apart := false }
def FnExactIsMixedListSaid : Prop := fnExactIsMixedListRow.holds Try.pinned (OpenSpec.ofChange fnExactIsMixedListSpec)

/-- ITS FALSE NEIGHBOUR: 'it returns false'. Refute it at one input. -/
def fnExactIsMixedListWrong : ChangeSpec := { name := "fnExactIsMixedList", fn := fun _ => fun
  | [d1, d2] => { results := [.lit (.bool false)], args := [d1, d2] }
  | _ => none }
def FnExactIsMixedListWrongFalsely : Prop := fnExactIsMixedListRow.holds Try.pinned (OpenSpec.ofChange fnExactIsMixedListWrong)

/-- 'laws.FnExactIsExchangeList': WHATEVER THE INPUT: true; the input reads as it did. -/
def fnExactIsExchangeListSpec : ChangeSpec := { name := "fnExactIsExchangeList", fn := fun _ => fun
  | [d1, d2, d3] => { results := [.lit (.bool true)], args := [d1, d2, d3] }
  | _ => none }
def fnExactIsExchangeListRow : OpenClaim := { program := "ytkphbelgamfmnaa", sum := "a7b6cea3ebc6359ef12e64cc40e897c46944b24c7425dc3abde5b129d7150820", func := "loop.example/g01104/laws.FnExactIsExchangeList", spec := "fnExactIsExchangeList", unfollowed := true, recurses := true, apart := false }
def FnExactIsExchangeListSaid : Prop := fnExactIsExchangeListRow.holds Try.pinned (OpenSpec.ofChange fnExactIsExchangeListSpec)

/-- ITS FALSE NEIGHBOUR: 'it returns false'. Refute it at one input. -/
def fnExactIsExchangeListWrong : ChangeSpec := { name := "fnExactIsExchangeList", fn := fun _ => fun
  | [d1, d2, d3] => { results := [.lit (.bool false)], args := [d1, d2, d3] }
  | _ => none }
def FnExactIsExchangeListWrongFalsely : Prop := fnExactIsExchangeListRow.holds Try.pinned (OpenSpec.ofChange fnExactIsExchangeListWrong)

/-- 'laws.FnExactIsRoundExchange': WHATEVER THE INPUT: true; the input reads as it did. -/
def fnExactIsRoundExchangeSpec : ChangeSpec := { name := "fnExactIsRoundExchange", fn := fun _ => fun
  | [d1, d2, d3] => { results := [.lit (.bool true)], args := [d1, d2, d3] }
  | _ => none }
def fnExactIsRoundExchangeRow : OpenClaim := { program := "ytkphbelgamfmnaa", sum := "a7b6cea3ebc6359ef12e64cc40e897c46944b24c7425dc3abde5b129d7150820", func := "loop.example/g01104/laws.FnExactIsRoundExchange", spec := "fnExactIsRoundExchange", unfollowed := true, recurses := true, apart := false }
def FnExactIsRoundExchangeSaid : Prop := fnExactIsRoundExchangeRow.holds Try.pinned (OpenSpec.ofChange fnExactIsRoundExchangeSpec)

/-- ITS FALSE NEIGHBOUR: 'it returns false'. Refute it at one input. -/
def fnExactIsRoundExchangeWrong : ChangeSpec := { name := "fnExactIsRoundExchange", fn := fun _ => fun
  | [d1, d2, d3] => { results := [.lit (.bool false)], args := [d1, d2, d3] }
  | _ => none }
def FnExactIsRoundExchangeWrongFalsely : Prop := fnExactIsRoundExchangeRow.holds Try.pinned (OpenSpec.ofChange fnExactIsRoundExchangeWrong)

/-- 'laws.FnExactIsAdjacentList': WHATEVER THE INPUT: true; the input reads as it did. -/
def fnExactIsAdjacentListSpec : ChangeSpec := { name := "fnExactIsAdjacentList", fn := fun _ => fun
  | [d1, d2, d3] => { results := [.lit (.bool true)], args := [d1, d2, d3] }
  | _ => none }
def fnExactIsAdjacentListRow : OpenClaim := { program := "ytkphbelgamfmnaa", sum := "a7b6cea3ebc6359ef12e64cc40e897c46944b24c7425dc3abde5b129d7150820", func := "loop.example/g01104/laws.FnExactIsAdjacentList", spec := "fnExactIsAdjacentList", unfollowed := true, recurses := true, apart := false }
def FnExactIsAdjacentListSaid : Prop := fnExactIsAdjacentListRow.holds Try.pinned (OpenSpec.ofChange fnExactIsAdjacentListSpec)

/-- ITS FALSE NEIGHBOUR: 'it returns false'. Refute it at one input. -/
def fnExactIsAdjacentListWrong : ChangeSpec := { name := "fnExactIsAdjacentList", fn := fun _ => fun
  | [d1, d2, d3] => { results := [.lit (.bool false)], args := [d1, d2, d3] }
  | _ => none }
def FnExactIsAdjacentListWrongFalsely : Prop := fnExactIsAdjacentListRow.holds Try.pinned (OpenSpec.ofChange fnExactIsAdjacentListWrong)

/- THE SECOND FORM. 'bulk': how many values and letters a reading holds, each counted each time it is reached (what is shared counts as often as it is met; a slice's spare places count too). A statement '..UptoSaid' is the law's where the arguments, and the package variables that the reading takes, are together of bulk at most 1048576: NARROWER than '..Said'. Prove '..Said' where nothing that the law and all that it calls make is longer than what came in: it says more and counts as full. Else prove '..UptoSaid'. A law counts once. -/
mutual
def uptoBulk {H : Type} : DataW H → Nat
  | .lit (.string bytes) => bytes.length + 1
  | .lit _ => 1
  | .nil => 1
  | .ptr d => uptoBulk d + 1
  | .slice elems spare => uptoBulkAll elems + uptoBulkAll spare + 1
  | .agg parts => uptoBulkAll parts + 1
  | .iface _ d => uptoBulk d + 1
  | .map entries => uptoBulkEntries entries + 1
  | .held _ => 1
def uptoBulkAll {H : Type} : List (DataW H) → Nat
  | [] => 0
  | d :: r => uptoBulk d + uptoBulkAll r
def uptoBulkEntries {H : Type} : List (Lit × DataW H) → Nat
  | [] => 0
  | x :: r => uptoBulkEntry x + uptoBulkEntries r
def uptoBulkEntry {H : Type} : Lit × DataW H → Nat
  | (.string bytes, d) => bytes.length + uptoBulk d + 1
  | (_, d) => uptoBulk d + 1
 end
def uptoSmall : (H : Type) → List (DataW H) → Bool := fun _ ds => decide (uptoBulkAll ds ≤ 1048576)
def OpenSpec.upto (s : _root_.Go.ChangeSpec) : _root_.Go.OpenSpec := { _root_.Go.OpenSpec.ofChange s with cond := some uptoSmall }

/-- 'laws.FnExactPermutationRank', WHERE WHAT IT READS IS OF BULK AT MOST 1048576: true; the input reads as it did. -/
def fnExactPermutationRankUptoRow : OpenClaim := { program := "ytkphbelgamfmnaa", sum := "a7b6cea3ebc6359ef12e64cc40e897c46944b24c7425dc3abde5b129d7150820", func := "loop.example/g01104/laws.FnExactPermutationRank", spec := "fnExactPermutationRank", unfollowed := true, recurses := true, apart := false, narrowed := true }
def FnExactPermutationRankUptoSaid : Prop := fnExactPermutationRankUptoRow.holds Try.pinned (OpenSpec.upto fnExactPermutationRankSpec)

/-- 'laws.FnExactIsMixedList', WHERE WHAT IT READS IS OF BULK AT MOST 1048576: true; the input reads as it did. -/
def fnExactIsMixedListUptoRow : OpenClaim := { program := "ytkphbelgamfmnaa", sum := "a7b6cea3ebc6359ef12e64cc40e897c46944b24c7425dc3abde5b129d7150820", func := "loop.example/g01104/laws.FnExactIsMixedList", spec := "fnExactIsMixedList", unfollowed := true, recurses := true, apart := false, narrowed := true }
def FnExactIsMixedListUptoSaid : Prop := fnExactIsMixedListUptoRow.holds Try.pinned (OpenSpec.upto fnExactIsMixedListSpec)

/-- 'laws.FnExactIsExchangeList', WHERE WHAT IT READS IS OF BULK AT MOST 1048576: true; the input reads as it did. -/
def fnExactIsExchangeListUptoRow : OpenClaim := { program := "ytkphbelgamfmnaa", sum := "a7b6cea3ebc6359ef12e64cc40e897c46944b24c7425dc3abde5b129d7150820", func := "loop.example/g01104/laws.FnExactIsExchangeList", spec := "fnExactIsExchangeList", unfollowed := true, recurses := true, apart := false, narrowed := true }
def FnExactIsExchangeListUptoSaid : Prop := fnExactIsExchangeListUptoRow.holds Try.pinned (OpenSpec.upto fnExactIsExchangeListSpec)

/-- 'laws.FnExactIsRoundExchange', WHERE WHAT IT READS IS OF BULK AT MOST 1048576: true; the input reads as it did. -/
def fnExactIsRoundExchangeUptoRow : OpenClaim := { program := "ytkphbelgamfmnaa", sum := "a7b6cea3ebc6359ef12e64cc40e897c46944b24c7425dc3abde5b129d7150820", func := "loop.example/g01104/laws.FnExactIsRoundExchange", spec := "fnExactIsRoundExchange", unfollowed := true, recurses := true, apart := false, narrowed := true }
def FnExactIsRoundExchangeUptoSaid : Prop := fnExactIsRoundExchangeUptoRow.holds Try.pinned (OpenSpec.upto fnExactIsRoundExchangeSpec)

/-- 'laws.FnExactIsAdjacentList', WHERE WHAT IT READS IS OF BULK AT MOST 1048576: true; the input reads as it did. -/
def fnExactIsAdjacentListUptoRow : OpenClaim := { program := "ytkphbelgamfmnaa", sum := "a7b6cea3ebc6359ef12e64cc40e897c46944b24c7425dc3abde5b129d7150820", func := "loop.example/g01104/laws.FnExactIsAdjacentList", spec := "fnExactIsAdjacentList", unfollowed := true, recurses := true, apart := false, narrowed := true }
def FnExactIsAdjacentListUptoSaid : Prop := fnExactIsAdjacentListUptoRow.holds Try.pinned (OpenSpec.upto fnExactIsAdjacentListSpec)

end Rows
end Go.Proofs.Ytkphbelgamfmnaa
