/-
  No cell of these rows narrows 'for every input' (looked for: loops, veiled, ifaces, maps, wideKeys, modest, calm, conditions, laid).
  DERIVED. THE GIVEN ROWS OF THIS SEAT. 12 by the template 'for every input the law returns true; each argument reads behind the call as it read before'; 0 by the template 'total and deterministic' (their statements: YtakelcboamjndaaTotals.lean).
  GIVEN WITH THE SEED: the statements are not yours to turn. If you find one false, say at which input.
  Laid BY PROGRAM, IN A SANDBOX (cutbox-rows.mjs): the forced cells as the released guide's own fill.sh prints them over the translation d2b61c9229188af5… (all of the seat's roots in one cut). By AI agents, Wed Nov 11 2026. No macro, syntax, notation, axiom, sorry.
-/
import Derived.Test.YtakelcboamjndaaChecked
import GoSem.Claim
import GoSem.ClaimJoined
import GoSem.ClaimMapViews
import Derived.JoinedTies
import Derived.KernelRfl
namespace Go.Proofs.Ytakelcboamjndaa
/- THE CELL 'sum', in the pinned program and in every row, IS THE sha256 OF THE DUMP (.gsa) THAT YtakelcboamjndaaProg.lean LOADS. Nothing in Lean hashes anything: it is a label: what it is worth is what the hold of that sum in a sandbox is worth. -/
noncomputable def Try.pinned : Pinned := { name := "ytakelcboamjndaa", sum := "d2b61c9229188af588b5064bb2cc35e1086fccb8de1754abb65fc111db2531b9", checked := Try.checked }
namespace Rows
def none {H : Type} : Left H := { results := [], args := [] }

/-- 'laws.FnExactIsGrowth': WHATEVER THE INPUT: true; the input reads as it did. -/
def fnExactIsGrowthSpec : ChangeSpec := { name := "fnExactIsGrowth", fn := fun _ => fun
  | [d] => { results := [.lit (.bool true)], args := [d] }
  | _ => none }
def fnExactIsGrowthRow : OpenClaim := { program := "ytakelcboamjndaa", sum := "d2b61c9229188af588b5064bb2cc35e1086fccb8de1754abb65fc111db2531b9", func := "loop.example/g01104/laws.FnExactIsGrowth", spec := "fnExactIsGrowth", unfollowed := true, recurses := true, plainKeys := false, apart := false }
def FnExactIsGrowthSaid : Prop := fnExactIsGrowthRow.holds Try.pinned (OpenSpec.ofChange fnExactIsGrowthSpec)

/-- ITS FALSE NEIGHBOUR: 'it returns false'. Refute it at one input. -/
def fnExactIsGrowthWrong : ChangeSpec := { name := "fnExactIsGrowth", fn := fun _ => fun
  | [d] => { results := [.lit (.bool false)], args := [d] }
  | _ => none }
def FnExactIsGrowthWrongFalsely : Prop := fnExactIsGrowthRow.holds Try.pinned (OpenSpec.ofChange fnExactIsGrowthWrong)

/-- 'laws.FnExactBlocksOf': WHATEVER THE INPUT: true; the input reads as it did. -/
def fnExactBlocksOfSpec : ChangeSpec := { name := "fnExactBlocksOf", fn := fun _ => fun
  | [d] => { results := [.lit (.bool true)], args := [d] }
  | _ => none }
def fnExactBlocksOfRow : OpenClaim := { program := "ytakelcboamjndaa", sum := "d2b61c9229188af588b5064bb2cc35e1086fccb8de1754abb65fc111db2531b9", func := "loop.example/g01104/laws.FnExactBlocksOf", spec := "fnExactBlocksOf", unfollowed := true, recurses := true, plainKeys := false, apart := false }
def FnExactBlocksOfSaid : Prop := fnExactBlocksOfRow.holds Try.pinned (OpenSpec.ofChange fnExactBlocksOfSpec)

/-- ITS FALSE NEIGHBOUR: 'it returns false'. Refute it at one input. -/
def fnExactBlocksOfWrong : ChangeSpec := { name := "fnExactBlocksOf", fn := fun _ => fun
  | [d] => { results := [.lit (.bool false)], args := [d] }
  | _ => none }
def FnExactBlocksOfWrongFalsely : Prop := fnExactBlocksOfRow.holds Try.pinned (OpenSpec.ofChange fnExactBlocksOfWrong)

/-- 'laws.FnExactGrowthOf': WHATEVER THE INPUT: true; the input reads as it did. -/
def fnExactGrowthOfSpec : ChangeSpec := { name := "fnExactGrowthOf", fn := fun _ => fun
  | [d] => { results := [.lit (.bool true)], args := [d] }
  | _ => none }
def fnExactGrowthOfRow : OpenClaim := { program := "ytakelcboamjndaa", sum := "d2b61c9229188af588b5064bb2cc35e1086fccb8de1754abb65fc111db2531b9", func := "loop.example/g01104/laws.FnExactGrowthOf", spec := "fnExactGrowthOf", unfollowed := true, recurses := true, plainKeys := false, apart := false }
def FnExactGrowthOfSaid : Prop := fnExactGrowthOfRow.holds Try.pinned (OpenSpec.ofChange fnExactGrowthOfSpec)

/-- ITS FALSE NEIGHBOUR: 'it returns false'. Refute it at one input. -/
def fnExactGrowthOfWrong : ChangeSpec := { name := "fnExactGrowthOf", fn := fun _ => fun
  | [d] => { results := [.lit (.bool false)], args := [d] }
  | _ => none }
def FnExactGrowthOfWrongFalsely : Prop := fnExactGrowthOfRow.holds Try.pinned (OpenSpec.ofChange fnExactGrowthOfWrong)

/-- 'laws.FnExactCountGrowths': WHATEVER THE INPUT: true; the input reads as it did. -/
def fnExactCountGrowthsSpec : ChangeSpec := { name := "fnExactCountGrowths", fn := fun _ => fun
  | [d] => { results := [.lit (.bool true)], args := [d] }
  | _ => none }
def fnExactCountGrowthsRow : OpenClaim := { program := "ytakelcboamjndaa", sum := "d2b61c9229188af588b5064bb2cc35e1086fccb8de1754abb65fc111db2531b9", func := "loop.example/g01104/laws.FnExactCountGrowths", spec := "fnExactCountGrowths", unfollowed := true, recurses := true, plainKeys := false, apart := false }
def FnExactCountGrowthsSaid : Prop := fnExactCountGrowthsRow.holds Try.pinned (OpenSpec.ofChange fnExactCountGrowthsSpec)

/-- ITS FALSE NEIGHBOUR: 'it returns false'. Refute it at one input. -/
def fnExactCountGrowthsWrong : ChangeSpec := { name := "fnExactCountGrowths", fn := fun _ => fun
  | [d] => { results := [.lit (.bool false)], args := [d] }
  | _ => none }
def FnExactCountGrowthsWrongFalsely : Prop := fnExactCountGrowthsRow.holds Try.pinned (OpenSpec.ofChange fnExactCountGrowthsWrong)

/-- 'laws.FnExactRankGrowth': WHATEVER THE INPUT: true; the input reads as it did. -/
def fnExactRankGrowthSpec : ChangeSpec := { name := "fnExactRankGrowth", fn := fun _ => fun
  | [d] => { results := [.lit (.bool true)], args := [d] }
  | _ => none }
def fnExactRankGrowthRow : OpenClaim := { program := "ytakelcboamjndaa", sum := "d2b61c9229188af588b5064bb2cc35e1086fccb8de1754abb65fc111db2531b9", func := "loop.example/g01104/laws.FnExactRankGrowth", spec := "fnExactRankGrowth", unfollowed := true, recurses := true, plainKeys := false, apart := false }
def FnExactRankGrowthSaid : Prop := fnExactRankGrowthRow.holds Try.pinned (OpenSpec.ofChange fnExactRankGrowthSpec)

/-- ITS FALSE NEIGHBOUR: 'it returns false'. Refute it at one input. -/
def fnExactRankGrowthWrong : ChangeSpec := { name := "fnExactRankGrowth", fn := fun _ => fun
  | [d] => { results := [.lit (.bool false)], args := [d] }
  | _ => none }
def FnExactRankGrowthWrongFalsely : Prop := fnExactRankGrowthRow.holds Try.pinned (OpenSpec.ofChange fnExactRankGrowthWrong)

/-- 'laws.FnExactGrowthWith': WHATEVER THE INPUT: true; the input reads as it did. -/
def fnExactGrowthWithSpec : ChangeSpec := { name := "fnExactGrowthWith", fn := fun _ => fun
  | [d1, d2] => { results := [.lit (.bool true)], args := [d1, d2] }
  | _ => none }
def fnExactGrowthWithRow : OpenClaim := { program := "ytakelcboamjndaa", sum := "d2b61c9229188af588b5064bb2cc35e1086fccb8de1754abb65fc111db2531b9", func := "loop.example/g01104/laws.FnExactGrowthWith", spec := "fnExactGrowthWith", unfollowed := true, recurses := true, plainKeys := false, apart := false }
def FnExactGrowthWithSaid : Prop := fnExactGrowthWithRow.holds Try.pinned (OpenSpec.ofChange fnExactGrowthWithSpec)

/-- ITS FALSE NEIGHBOUR: 'it returns false'. Refute it at one input. -/
def fnExactGrowthWithWrong : ChangeSpec := { name := "fnExactGrowthWith", fn := fun _ => fun
  | [d1, d2] => { results := [.lit (.bool false)], args := [d1, d2] }
  | _ => none }
def FnExactGrowthWithWrongFalsely : Prop := fnExactGrowthWithRow.holds Try.pinned (OpenSpec.ofChange fnExactGrowthWithWrong)

/-- 'laws.FnExactGrayGrowths': WHATEVER THE INPUT: true; the input reads as it did. -/
def fnExactGrayGrowthsSpec : ChangeSpec := { name := "fnExactGrayGrowths", fn := fun _ => fun
  | [d] => { results := [.lit (.bool true)], args := [d] }
  | _ => none }
def fnExactGrayGrowthsRow : OpenClaim := { program := "ytakelcboamjndaa", sum := "d2b61c9229188af588b5064bb2cc35e1086fccb8de1754abb65fc111db2531b9", func := "loop.example/g01104/laws.FnExactGrayGrowths", spec := "fnExactGrayGrowths", unfollowed := true, recurses := true, plainKeys := false, apart := false }
def FnExactGrayGrowthsSaid : Prop := fnExactGrayGrowthsRow.holds Try.pinned (OpenSpec.ofChange fnExactGrayGrowthsSpec)

/-- ITS FALSE NEIGHBOUR: 'it returns false'. Refute it at one input. -/
def fnExactGrayGrowthsWrong : ChangeSpec := { name := "fnExactGrayGrowths", fn := fun _ => fun
  | [d] => { results := [.lit (.bool false)], args := [d] }
  | _ => none }
def FnExactGrayGrowthsWrongFalsely : Prop := fnExactGrayGrowthsRow.holds Try.pinned (OpenSpec.ofChange fnExactGrayGrowthsWrong)

/-- 'laws.FnExactIsBalancedWord': WHATEVER THE INPUT: true; the input reads as it did. -/
def fnExactIsBalancedWordSpec : ChangeSpec := { name := "fnExactIsBalancedWord", fn := fun _ => fun
  | [d] => { results := [.lit (.bool true)], args := [d] }
  | _ => none }
def fnExactIsBalancedWordRow : OpenClaim := { program := "ytakelcboamjndaa", sum := "d2b61c9229188af588b5064bb2cc35e1086fccb8de1754abb65fc111db2531b9", func := "loop.example/g01104/laws.FnExactIsBalancedWord", spec := "fnExactIsBalancedWord", unfollowed := true, recurses := true, plainKeys := false, apart := false }
def FnExactIsBalancedWordSaid : Prop := fnExactIsBalancedWordRow.holds Try.pinned (OpenSpec.ofChange fnExactIsBalancedWordSpec)

/-- ITS FALSE NEIGHBOUR: 'it returns false'. Refute it at one input. -/
def fnExactIsBalancedWordWrong : ChangeSpec := { name := "fnExactIsBalancedWord", fn := fun _ => fun
  | [d] => { results := [.lit (.bool false)], args := [d] }
  | _ => none }
def FnExactIsBalancedWordWrongFalsely : Prop := fnExactIsBalancedWordRow.holds Try.pinned (OpenSpec.ofChange fnExactIsBalancedWordWrong)

/-- 'laws.FnExactCountBalanced': WHATEVER THE INPUT: true; the input reads as it did. -/
def fnExactCountBalancedSpec : ChangeSpec := { name := "fnExactCountBalanced", fn := fun _ => fun
  | [d] => { results := [.lit (.bool true)], args := [d] }
  | _ => none }
def fnExactCountBalancedRow : OpenClaim := { program := "ytakelcboamjndaa", sum := "d2b61c9229188af588b5064bb2cc35e1086fccb8de1754abb65fc111db2531b9", func := "loop.example/g01104/laws.FnExactCountBalanced", spec := "fnExactCountBalanced", unfollowed := true, recurses := true, plainKeys := false, apart := false }
def FnExactCountBalancedSaid : Prop := fnExactCountBalancedRow.holds Try.pinned (OpenSpec.ofChange fnExactCountBalancedSpec)

/-- ITS FALSE NEIGHBOUR: 'it returns false'. Refute it at one input. -/
def fnExactCountBalancedWrong : ChangeSpec := { name := "fnExactCountBalanced", fn := fun _ => fun
  | [d] => { results := [.lit (.bool false)], args := [d] }
  | _ => none }
def FnExactCountBalancedWrongFalsely : Prop := fnExactCountBalancedRow.holds Try.pinned (OpenSpec.ofChange fnExactCountBalancedWrong)

/-- 'laws.FnExactRankBalanced': WHATEVER THE INPUT: true; the input reads as it did. -/
def fnExactRankBalancedSpec : ChangeSpec := { name := "fnExactRankBalanced", fn := fun _ => fun
  | [d] => { results := [.lit (.bool true)], args := [d] }
  | _ => none }
def fnExactRankBalancedRow : OpenClaim := { program := "ytakelcboamjndaa", sum := "d2b61c9229188af588b5064bb2cc35e1086fccb8de1754abb65fc111db2531b9", func := "loop.example/g01104/laws.FnExactRankBalanced", spec := "fnExactRankBalanced", unfollowed := true, recurses := true, plainKeys := false, apart := false }
def FnExactRankBalancedSaid : Prop := fnExactRankBalancedRow.holds Try.pinned (OpenSpec.ofChange fnExactRankBalancedSpec)

/-- ITS FALSE NEIGHBOUR: 'it returns false'. Refute it at one input. -/
def fnExactRankBalancedWrong : ChangeSpec := { name := "fnExactRankBalanced", fn := fun _ => fun
  | [d] => { results := [.lit (.bool false)], args := [d] }
  | _ => none }
def FnExactRankBalancedWrongFalsely : Prop := fnExactRankBalancedRow.holds Try.pinned (OpenSpec.ofChange fnExactRankBalancedWrong)

/-- 'laws.FnExactBalancedWith': WHATEVER THE INPUT: true; the input reads as it did. -/
def fnExactBalancedWithSpec : ChangeSpec := { name := "fnExactBalancedWith", fn := fun _ => fun
  | [d1, d2] => { results := [.lit (.bool true)], args := [d1, d2] }
  | _ => none }
def fnExactBalancedWithRow : OpenClaim := { program := "ytakelcboamjndaa", sum := "d2b61c9229188af588b5064bb2cc35e1086fccb8de1754abb65fc111db2531b9", func := "loop.example/g01104/laws.FnExactBalancedWith", spec := "fnExactBalancedWith", unfollowed := true, recurses := true, plainKeys := false, apart := false }
def FnExactBalancedWithSaid : Prop := fnExactBalancedWithRow.holds Try.pinned (OpenSpec.ofChange fnExactBalancedWithSpec)

/-- ITS FALSE NEIGHBOUR: 'it returns false'. Refute it at one input. -/
def fnExactBalancedWithWrong : ChangeSpec := { name := "fnExactBalancedWith", fn := fun _ => fun
  | [d1, d2] => { results := [.lit (.bool false)], args := [d1, d2] }
  | _ => none }
def FnExactBalancedWithWrongFalsely : Prop := fnExactBalancedWithRow.holds Try.pinned (OpenSpec.ofChange fnExactBalancedWithWrong)

/-- 'laws.FnExactGrayBalanced': WHATEVER THE INPUT: true; the input reads as it did. -/
def fnExactGrayBalancedSpec : ChangeSpec := { name := "fnExactGrayBalanced", fn := fun _ => fun
  | [d] => { results := [.lit (.bool true)], args := [d] }
  | _ => none }
def fnExactGrayBalancedRow : OpenClaim := { program := "ytakelcboamjndaa", sum := "d2b61c9229188af588b5064bb2cc35e1086fccb8de1754abb65fc111db2531b9", func := "loop.example/g01104/laws.FnExactGrayBalanced", spec := "fnExactGrayBalanced", unfollowed := true, recurses := true, plainKeys := false, apart := false }
def FnExactGrayBalancedSaid : Prop := fnExactGrayBalancedRow.holds Try.pinned (OpenSpec.ofChange fnExactGrayBalancedSpec)

/-- ITS FALSE NEIGHBOUR: 'it returns false'. Refute it at one input. -/
def fnExactGrayBalancedWrong : ChangeSpec := { name := "fnExactGrayBalanced", fn := fun _ => fun
  | [d] => { results := [.lit (.bool false)], args := [d] }
  | _ => none }
def FnExactGrayBalancedWrongFalsely : Prop := fnExactGrayBalancedRow.holds Try.pinned (OpenSpec.ofChange fnExactGrayBalancedWrong)

/- THE SECOND FORM. 'bulk': how many values and letters a reading holds, each counted each time it is reached (what is shared counts as often as it is met; a slice's spare places count too). A statement '..UptoSaid' is the law's where the arguments, and the package variables that the reading takes, are together of bulk at most 1048576: NARROWER than '..Said'. Prove '..Said' where nothing that the law and all that it calls make is longer than what came in: it says more and counts as full. Else prove '..UptoSaid'. A law counts once. -/
mutual
def uptoBulk {H : Type} : DataW H → Nat
  | .lit (.string bytes) => bytes.length + 1
  | .lit _ => 1
  | .nil => 1
  | .ptr d => uptoBulk d + 1
  | .slice elems spare => uptoBulkAll elems + uptoBulkAll spare + 1
  | .agg parts => uptoBulkAll parts + 1
  | .iface _ d => uptoBulk d + 1
  | .map entries => uptoBulkEntries entries + 1
  | .held _ => 1
def uptoBulkAll {H : Type} : List (DataW H) → Nat
  | [] => 0
  | d :: r => uptoBulk d + uptoBulkAll r
def uptoBulkEntries {H : Type} : List (Lit × DataW H) → Nat
  | [] => 0
  | x :: r => uptoBulkEntry x + uptoBulkEntries r
def uptoBulkEntry {H : Type} : Lit × DataW H → Nat
  | (.string bytes, d) => bytes.length + uptoBulk d + 1
  | (_, d) => uptoBulk d + 1
 end
def uptoSmall : (H : Type) → List (DataW H) → Bool := fun _ ds => decide (uptoBulkAll ds ≤ 1048576)
def OpenSpec.upto (s : _root_.Go.ChangeSpec) : _root_.Go.OpenSpec := { _root_.Go.OpenSpec.ofChange s with cond := some uptoSmall }

/-- 'laws.FnExactIsGrowth', WHERE WHAT IT READS IS OF BULK AT MOST 1048576: true; the input reads as it did. -/
def fnExactIsGrowthUptoRow : OpenClaim := { program := "ytakelcboamjndaa", sum := "d2b61c9229188af588b5064bb2cc35e1086fccb8de1754abb65fc111db2531b9", func := "loop.example/g01104/laws.FnExactIsGrowth", spec := "fnExactIsGrowth", unfollowed := true, recurses := true, plainKeys := false, apart := false, narrowed := true }
def FnExactIsGrowthUptoSaid : Prop := fnExactIsGrowthUptoRow.holds Try.pinned (OpenSpec.upto fnExactIsGrowthSpec)

/-- 'laws.FnExactBlocksOf', WHERE WHAT IT READS IS OF BULK AT MOST 1048576: true; the input reads as it did. -/
def fnExactBlocksOfUptoRow : OpenClaim := { program := "ytakelcboamjndaa", sum := "d2b61c9229188af588b5064bb2cc35e1086fccb8de1754abb65fc111db2531b9", func := "loop.example/g01104/laws.FnExactBlocksOf", spec := "fnExactBlocksOf", unfollowed := true, recurses := true, plainKeys := false, apart := false, narrowed := true }
def FnExactBlocksOfUptoSaid : Prop := fnExactBlocksOfUptoRow.holds Try.pinned (OpenSpec.upto fnExactBlocksOfSpec)

/-- 'laws.FnExactGrowthOf', WHERE WHAT IT READS IS OF BULK AT MOST 1048576: true; the input reads as it did. -/
def fnExactGrowthOfUptoRow : OpenClaim := { program := "ytakelcboamjndaa", sum := "d2b61c9229188af588b5064bb2cc35e1086fccb8de1754abb65fc111db2531b9", func := "loop.example/g01104/laws.FnExactGrowthOf", spec := "fnExactGrowthOf", unfollowed := true, recurses := true, plainKeys := false, apart := false, narrowed := true }
def FnExactGrowthOfUptoSaid : Prop := fnExactGrowthOfUptoRow.holds Try.pinned (OpenSpec.upto fnExactGrowthOfSpec)

/-- 'laws.FnExactCountGrowths', WHERE WHAT IT READS IS OF BULK AT MOST 1048576: true; the input reads as it did. -/
def fnExactCountGrowthsUptoRow : OpenClaim := { program := "ytakelcboamjndaa", sum := "d2b61c9229188af588b5064bb2cc35e1086fccb8de1754abb65fc111db2531b9", func := "loop.example/g01104/laws.FnExactCountGrowths", spec := "fnExactCountGrowths", unfollowed := true, recurses := true, plainKeys := false, apart := false, narrowed := true }
def FnExactCountGrowthsUptoSaid : Prop := fnExactCountGrowthsUptoRow.holds Try.pinned (OpenSpec.upto fnExactCountGrowthsSpec)

/-- 'laws.FnExactRankGrowth', WHERE WHAT IT READS IS OF BULK AT MOST 1048576: true; the input reads as it did. -/
def fnExactRankGrowthUptoRow : OpenClaim := { program := "ytakelcboamjndaa", sum := "d2b61c9229188af588b5064bb2cc35e1086fccb8de1754abb65fc111db2531b9", func := "loop.example/g01104/laws.FnExactRankGrowth", spec := "fnExactRankGrowth", unfollowed := true, recurses := true, plainKeys := false, apart := false, narrowed := true }
def FnExactRankGrowthUptoSaid : Prop := fnExactRankGrowthUptoRow.holds Try.pinned (OpenSpec.upto fnExactRankGrowthSpec)

/-- 'laws.FnExactGrowthWith', WHERE WHAT IT READS IS OF BULK AT MOST 1048576: true; the input reads as it did. -/
def fnExactGrowthWithUptoRow : OpenClaim := { program := "ytakelcboamjndaa", sum := "d2b61c9229188af588b5064bb2cc35e1086fccb8de1754abb65fc111db2531b9", func := "loop.example/g01104/laws.FnExactGrowthWith", spec := "fnExactGrowthWith", unfollowed := true, recurses := true, plainKeys := false, apart := false, narrowed := true }
def FnExactGrowthWithUptoSaid : Prop := fnExactGrowthWithUptoRow.holds Try.pinned (OpenSpec.upto fnExactGrowthWithSpec)

/-- 'laws.FnExactGrayGrowths', WHERE WHAT IT READS IS OF BULK AT MOST 1048576: true; the input reads as it did. -/
def fnExactGrayGrowthsUptoRow : OpenClaim := { program := "ytakelcboamjndaa", sum := "d2b61c9229188af588b5064bb2cc35e1086fccb8de1754abb65fc111db2531b9", func := "loop.example/g01104/laws.FnExactGrayGrowths", spec := "fnExactGrayGrowths", unfollowed := true, recurses := true, plainKeys := false, apart := false, narrowed := true }
def FnExactGrayGrowthsUptoSaid : Prop := fnExactGrayGrowthsUptoRow.holds Try.pinned (OpenSpec.upto fnExactGrayGrowthsSpec)

/-- 'laws.FnExactIsBalancedWord', WHERE WHAT IT READS IS OF BULK AT MOST 1048576: true; the input reads as it did. -/
def fnExactIsBalancedWordUptoRow : OpenClaim := { program := "ytakelcboamjndaa", sum := "d2b61c9229188af588b5064bb2cc35e1086fccb8de1754abb65fc111db2531b9", func := "loop.example/g01104/laws.FnExactIsBalancedWord", spec := "fnExactIsBalancedWord", unfollowed := true, recurses := true, plainKeys := false, apart := false, narrowed := true }
def FnExactIsBalancedWordUptoSaid : Prop := fnExactIsBalancedWordUptoRow.holds Try.pinned (OpenSpec.upto fnExactIsBalancedWordSpec)

/-- 'laws.FnExactCountBalanced', WHERE WHAT IT READS IS OF BULK AT MOST 1048576: true; the input reads as it did. -/
def fnExactCountBalancedUptoRow : OpenClaim := { program := "ytakelcboamjndaa", sum := "d2b61c9229188af588b5064bb2cc35e1086fccb8de1754abb65fc111db2531b9", func := "loop.example/g01104/laws.FnExactCountBalanced", spec := "fnExactCountBalanced", unfollowed := true, recurses := true, plainKeys := false, apart := false, narrowed := true }
def FnExactCountBalancedUptoSaid : Prop := fnExactCountBalancedUptoRow.holds Try.pinned (OpenSpec.upto fnExactCountBalancedSpec)

/-- 'laws.FnExactRankBalanced', WHERE WHAT IT READS IS OF BULK AT MOST 1048576: true; the input reads as it did. -/
def fnExactRankBalancedUptoRow : OpenClaim := { program := "ytakelcboamjndaa", sum := "d2b61c9229188af588b5064bb2cc35e1086fccb8de1754abb65fc111db2531b9", func := "loop.example/g01104/laws.FnExactRankBalanced", spec := "fnExactRankBalanced", unfollowed := true, recurses := true, plainKeys := false, apart := false, narrowed := true }
def FnExactRankBalancedUptoSaid : Prop := fnExactRankBalancedUptoRow.holds Try.pinned (OpenSpec.upto fnExactRankBalancedSpec)

/-- 'laws.FnExactBalancedWith', WHERE WHAT IT READS IS OF BULK AT MOST 1048576: true; the input reads as it did. -/
def fnExactBalancedWithUptoRow : OpenClaim := { program := "ytakelcboamjndaa", sum := "d2b61c9229188af588b5064bb2cc35e1086fccb8de1754abb65fc111db2531b9", func := "loop.example/g01104/laws.FnExactBalancedWith", spec := "fnExactBalancedWith", unfollowed := true, recurses := true, plainKeys := false, apart := false, narrowed := true }
def FnExactBalancedWithUptoSaid : Prop := fnExactBalancedWithUptoRow.holds Try.pinned (OpenSpec.upto fnExactBalancedWithSpec)

/-- 'laws.FnExactGrayBalanced', WHERE WHAT IT READS IS OF BULK AT MOST 1048576: true; the input reads as it did. -/
def fnExactGrayBalancedUptoRow : OpenClaim := { program := "ytakelcboamjndaa", sum := "d2b61c9229188af588b5064bb2cc35e1086fccb8de1754abb65fc111db2531b9", func := "loop.example/g01104/laws.FnExactGrayBalanced", spec := "fnExactGrayBalanced", unfollowed := true, recurses := true, plainKeys := false, apart := false, narrowed := true }
def FnExactGrayBalancedUptoSaid : Prop := fnExactGrayBalancedUptoRow.holds Try.pinned (OpenSpec.upto fnExactGrayBalancedSpec)

end Rows
end Go.Proofs.Ytakelcboamjndaa
