/-
  No cell of these rows narrows 'for every input' (looked for: loops, veiled, ifaces, maps, wideKeys, modest, calm, conditions, laid).
  DERIVED. THE GIVEN ROWS OF THIS SEAT. 12 by the template 'for every input the law returns true; each argument reads behind the call as it read before'; 0 by the template 'total and deterministic' (their statements: YtakelcboamjndabTotals.lean).
  GIVEN WITH THE SEED: the statements are not yours to turn. If you find one false, say at which input.
  Laid BY PROGRAM, IN A SANDBOX (cutbox-rows.mjs): the forced cells as the released guide's own fill.sh prints them over the translation e410ccba44735855… (all of the seat's roots in one cut). By AI agents, Wed Nov 11 2026. No macro, syntax, notation, axiom, sorry.
-/
import Derived.Test.YtakelcboamjndabChecked
import GoSem.Claim
import GoSem.ClaimJoined
import GoSem.ClaimMapViews
import Derived.JoinedTies
import Derived.KernelRfl
namespace Go.Proofs.Ytakelcboamjndab
/- THE CELL 'sum', in the pinned program and in every row, IS THE sha256 OF THE DUMP (.gsa) THAT YtakelcboamjndabProg.lean LOADS. Nothing in Lean hashes anything: it is a label: what it is worth is what the hold of that sum in a sandbox is worth. -/
noncomputable def Try.pinned : Pinned := { name := "ytakelcboamjndab", sum := "e410ccba44735855d12fcc5f7f91becdad5a949a669cceaace6c81b0928112d2", checked := Try.checked }
namespace Rows
def none {H : Type} : Left H := { results := [], args := [] }

/-- 'laws.FnExactParentsOf': WHATEVER THE INPUT: true; the input reads as it did. -/
def fnExactParentsOfSpec : ChangeSpec := { name := "fnExactParentsOf", fn := fun _ => fun
  | [d] => { results := [.lit (.bool true)], args := [d] }
  | _ => none }
def fnExactParentsOfRow : OpenClaim := { program := "ytakelcboamjndab", sum := "e410ccba44735855d12fcc5f7f91becdad5a949a669cceaace6c81b0928112d2", func := "loop.example/g01104/laws.FnExactParentsOf", spec := "fnExactParentsOf", unfollowed := true, recurses := true, plainKeys := false, apart := false }
def FnExactParentsOfSaid : Prop := fnExactParentsOfRow.holds Try.pinned (OpenSpec.ofChange fnExactParentsOfSpec)

/-- ITS FALSE NEIGHBOUR: 'it returns false'. Refute it at one input. -/
def fnExactParentsOfWrong : ChangeSpec := { name := "fnExactParentsOf", fn := fun _ => fun
  | [d] => { results := [.lit (.bool false)], args := [d] }
  | _ => none }
def FnExactParentsOfWrongFalsely : Prop := fnExactParentsOfRow.holds Try.pinned (OpenSpec.ofChange fnExactParentsOfWrong)

/-- 'laws.FnExactWordOfParents': WHATEVER THE INPUT: true; the input reads as it did. -/
def fnExactWordOfParentsSpec : ChangeSpec := { name := "fnExactWordOfParents", fn := fun _ => fun
  | [d] => { results := [.lit (.bool true)], args := [d] }
  | _ => none }
def fnExactWordOfParentsRow : OpenClaim := { program := "ytakelcboamjndab", sum := "e410ccba44735855d12fcc5f7f91becdad5a949a669cceaace6c81b0928112d2", func := "loop.example/g01104/laws.FnExactWordOfParents", spec := "fnExactWordOfParents", plainKeys := false, apart := false }
def FnExactWordOfParentsSaid : Prop := fnExactWordOfParentsRow.holds Try.pinned (OpenSpec.ofChange fnExactWordOfParentsSpec)

/-- ITS FALSE NEIGHBOUR: 'it returns false'. Refute it at one input. -/
def fnExactWordOfParentsWrong : ChangeSpec := { name := "fnExactWordOfParents", fn := fun _ => fun
  | [d] => { results := [.lit (.bool false)], args := [d] }
  | _ => none }
def FnExactWordOfParentsWrongFalsely : Prop := fnExactWordOfParentsRow.holds Try.pinned (OpenSpec.ofChange fnExactWordOfParentsWrong)

/-- 'laws.FnExactHasCrossing': WHATEVER THE INPUT: true; the input reads as it did. -/
def fnExactHasCrossingSpec : ChangeSpec := { name := "fnExactHasCrossing", fn := fun _ => fun
  | [d] => { results := [.lit (.bool true)], args := [d] }
  | _ => none }
def fnExactHasCrossingRow : OpenClaim := { program := "ytakelcboamjndab", sum := "e410ccba44735855d12fcc5f7f91becdad5a949a669cceaace6c81b0928112d2", func := "loop.example/g01104/laws.FnExactHasCrossing", spec := "fnExactHasCrossing", unfollowed := true, recurses := true, plainKeys := false, apart := false }
def FnExactHasCrossingSaid : Prop := fnExactHasCrossingRow.holds Try.pinned (OpenSpec.ofChange fnExactHasCrossingSpec)

/-- ITS FALSE NEIGHBOUR: 'it returns false'. Refute it at one input. -/
def fnExactHasCrossingWrong : ChangeSpec := { name := "fnExactHasCrossing", fn := fun _ => fun
  | [d] => { results := [.lit (.bool false)], args := [d] }
  | _ => none }
def FnExactHasCrossingWrongFalsely : Prop := fnExactHasCrossingRow.holds Try.pinned (OpenSpec.ofChange fnExactHasCrossingWrong)

/-- 'laws.FnExactWordOfGrowth': WHATEVER THE INPUT: true; the input reads as it did. -/
def fnExactWordOfGrowthSpec : ChangeSpec := { name := "fnExactWordOfGrowth", fn := fun _ => fun
  | [d] => { results := [.lit (.bool true)], args := [d] }
  | _ => none }
def fnExactWordOfGrowthRow : OpenClaim := { program := "ytakelcboamjndab", sum := "e410ccba44735855d12fcc5f7f91becdad5a949a669cceaace6c81b0928112d2", func := "loop.example/g01104/laws.FnExactWordOfGrowth", spec := "fnExactWordOfGrowth", unfollowed := true, recurses := true, plainKeys := false, apart := false }
def FnExactWordOfGrowthSaid : Prop := fnExactWordOfGrowthRow.holds Try.pinned (OpenSpec.ofChange fnExactWordOfGrowthSpec)

/-- ITS FALSE NEIGHBOUR: 'it returns false'. Refute it at one input. -/
def fnExactWordOfGrowthWrong : ChangeSpec := { name := "fnExactWordOfGrowth", fn := fun _ => fun
  | [d] => { results := [.lit (.bool false)], args := [d] }
  | _ => none }
def FnExactWordOfGrowthWrongFalsely : Prop := fnExactWordOfGrowthRow.holds Try.pinned (OpenSpec.ofChange fnExactWordOfGrowthWrong)

/-- 'laws.FnExactGrowthOfWord': WHATEVER THE INPUT: true; the input reads as it did. -/
def fnExactGrowthOfWordSpec : ChangeSpec := { name := "fnExactGrowthOfWord", fn := fun _ => fun
  | [d] => { results := [.lit (.bool true)], args := [d] }
  | _ => none }
def fnExactGrowthOfWordRow : OpenClaim := { program := "ytakelcboamjndab", sum := "e410ccba44735855d12fcc5f7f91becdad5a949a669cceaace6c81b0928112d2", func := "loop.example/g01104/laws.FnExactGrowthOfWord", spec := "fnExactGrowthOfWord", unfollowed := true, recurses := true, plainKeys := false, apart := false }
def FnExactGrowthOfWordSaid : Prop := fnExactGrowthOfWordRow.holds Try.pinned (OpenSpec.ofChange fnExactGrowthOfWordSpec)

/-- ITS FALSE NEIGHBOUR: 'it returns false'. Refute it at one input. -/
def fnExactGrowthOfWordWrong : ChangeSpec := { name := "fnExactGrowthOfWord", fn := fun _ => fun
  | [d] => { results := [.lit (.bool false)], args := [d] }
  | _ => none }
def FnExactGrowthOfWordWrongFalsely : Prop := fnExactGrowthOfWordRow.holds Try.pinned (OpenSpec.ofChange fnExactGrowthOfWordWrong)

/-- 'laws.FnExactIsParted': WHATEVER THE INPUT: true; the input reads as it did. -/
def fnExactIsPartedSpec : ChangeSpec := { name := "fnExactIsParted", fn := fun _ => fun
  | [d] => { results := [.lit (.bool true)], args := [d] }
  | _ => none }
def fnExactIsPartedRow : OpenClaim := { program := "ytakelcboamjndab", sum := "e410ccba44735855d12fcc5f7f91becdad5a949a669cceaace6c81b0928112d2", func := "loop.example/g01104/laws.FnExactIsParted", spec := "fnExactIsParted", unfollowed := true, recurses := true, plainKeys := false, apart := false }
def FnExactIsPartedSaid : Prop := fnExactIsPartedRow.holds Try.pinned (OpenSpec.ofChange fnExactIsPartedSpec)

/-- ITS FALSE NEIGHBOUR: 'it returns false'. Refute it at one input. -/
def fnExactIsPartedWrong : ChangeSpec := { name := "fnExactIsParted", fn := fun _ => fun
  | [d] => { results := [.lit (.bool false)], args := [d] }
  | _ => none }
def FnExactIsPartedWrongFalsely : Prop := fnExactIsPartedRow.holds Try.pinned (OpenSpec.ofChange fnExactIsPartedWrong)

/-- 'laws.FnExactCountParted': WHATEVER THE INPUT: true; the input reads as it did. -/
def fnExactCountPartedSpec : ChangeSpec := { name := "fnExactCountParted", fn := fun _ => fun
  | [d1, d2] => { results := [.lit (.bool true)], args := [d1, d2] }
  | _ => none }
def fnExactCountPartedRow : OpenClaim := { program := "ytakelcboamjndab", sum := "e410ccba44735855d12fcc5f7f91becdad5a949a669cceaace6c81b0928112d2", func := "loop.example/g01104/laws.FnExactCountParted", spec := "fnExactCountParted", unfollowed := true, recurses := true, plainKeys := false, apart := false }
def FnExactCountPartedSaid : Prop := fnExactCountPartedRow.holds Try.pinned (OpenSpec.ofChange fnExactCountPartedSpec)

/-- ITS FALSE NEIGHBOUR: 'it returns false'. Refute it at one input. -/
def fnExactCountPartedWrong : ChangeSpec := { name := "fnExactCountParted", fn := fun _ => fun
  | [d1, d2] => { results := [.lit (.bool false)], args := [d1, d2] }
  | _ => none }
def FnExactCountPartedWrongFalsely : Prop := fnExactCountPartedRow.holds Try.pinned (OpenSpec.ofChange fnExactCountPartedWrong)

/-- 'laws.FnExactPartedOf': WHATEVER THE INPUT: true; the input reads as it did. -/
def fnExactPartedOfSpec : ChangeSpec := { name := "fnExactPartedOf", fn := fun _ => fun
  | [d] => { results := [.lit (.bool true)], args := [d] }
  | _ => none }
def fnExactPartedOfRow : OpenClaim := { program := "ytakelcboamjndab", sum := "e410ccba44735855d12fcc5f7f91becdad5a949a669cceaace6c81b0928112d2", func := "loop.example/g01104/laws.FnExactPartedOf", spec := "fnExactPartedOf", unfollowed := true, recurses := true, plainKeys := false, apart := false }
def FnExactPartedOfSaid : Prop := fnExactPartedOfRow.holds Try.pinned (OpenSpec.ofChange fnExactPartedOfSpec)

/-- ITS FALSE NEIGHBOUR: 'it returns false'. Refute it at one input. -/
def fnExactPartedOfWrong : ChangeSpec := { name := "fnExactPartedOf", fn := fun _ => fun
  | [d] => { results := [.lit (.bool false)], args := [d] }
  | _ => none }
def FnExactPartedOfWrongFalsely : Prop := fnExactPartedOfRow.holds Try.pinned (OpenSpec.ofChange fnExactPartedOfWrong)

/-- 'laws.FnExactRankParted': WHATEVER THE INPUT: true; the input reads as it did. -/
def fnExactRankPartedSpec : ChangeSpec := { name := "fnExactRankParted", fn := fun _ => fun
  | [d] => { results := [.lit (.bool true)], args := [d] }
  | _ => none }
def fnExactRankPartedRow : OpenClaim := { program := "ytakelcboamjndab", sum := "e410ccba44735855d12fcc5f7f91becdad5a949a669cceaace6c81b0928112d2", func := "loop.example/g01104/laws.FnExactRankParted", spec := "fnExactRankParted", unfollowed := true, recurses := true, plainKeys := false, apart := false }
def FnExactRankPartedSaid : Prop := fnExactRankPartedRow.holds Try.pinned (OpenSpec.ofChange fnExactRankPartedSpec)

/-- ITS FALSE NEIGHBOUR: 'it returns false'. Refute it at one input. -/
def fnExactRankPartedWrong : ChangeSpec := { name := "fnExactRankParted", fn := fun _ => fun
  | [d] => { results := [.lit (.bool false)], args := [d] }
  | _ => none }
def FnExactRankPartedWrongFalsely : Prop := fnExactRankPartedRow.holds Try.pinned (OpenSpec.ofChange fnExactRankPartedWrong)

/-- 'laws.FnExactPartedWith': WHATEVER THE INPUT: true; the input reads as it did. -/
def fnExactPartedWithSpec : ChangeSpec := { name := "fnExactPartedWith", fn := fun _ => fun
  | [d1, d2] => { results := [.lit (.bool true)], args := [d1, d2] }
  | _ => none }
def fnExactPartedWithRow : OpenClaim := { program := "ytakelcboamjndab", sum := "e410ccba44735855d12fcc5f7f91becdad5a949a669cceaace6c81b0928112d2", func := "loop.example/g01104/laws.FnExactPartedWith", spec := "fnExactPartedWith", unfollowed := true, recurses := true, plainKeys := false, apart := false }
def FnExactPartedWithSaid : Prop := fnExactPartedWithRow.holds Try.pinned (OpenSpec.ofChange fnExactPartedWithSpec)

/-- ITS FALSE NEIGHBOUR: 'it returns false'. Refute it at one input. -/
def fnExactPartedWithWrong : ChangeSpec := { name := "fnExactPartedWith", fn := fun _ => fun
  | [d1, d2] => { results := [.lit (.bool false)], args := [d1, d2] }
  | _ => none }
def FnExactPartedWithWrongFalsely : Prop := fnExactPartedWithRow.holds Try.pinned (OpenSpec.ofChange fnExactPartedWithWrong)

/-- 'laws.FnExactConjugateOf': WHATEVER THE INPUT: true; the input reads as it did. -/
def fnExactConjugateOfSpec : ChangeSpec := { name := "fnExactConjugateOf", fn := fun _ => fun
  | [d] => { results := [.lit (.bool true)], args := [d] }
  | _ => none }
def fnExactConjugateOfRow : OpenClaim := { program := "ytakelcboamjndab", sum := "e410ccba44735855d12fcc5f7f91becdad5a949a669cceaace6c81b0928112d2", func := "loop.example/g01104/laws.FnExactConjugateOf", spec := "fnExactConjugateOf", unfollowed := true, recurses := true, plainKeys := false, apart := false }
def FnExactConjugateOfSaid : Prop := fnExactConjugateOfRow.holds Try.pinned (OpenSpec.ofChange fnExactConjugateOfSpec)

/-- ITS FALSE NEIGHBOUR: 'it returns false'. Refute it at one input. -/
def fnExactConjugateOfWrong : ChangeSpec := { name := "fnExactConjugateOf", fn := fun _ => fun
  | [d] => { results := [.lit (.bool false)], args := [d] }
  | _ => none }
def FnExactConjugateOfWrongFalsely : Prop := fnExactConjugateOfRow.holds Try.pinned (OpenSpec.ofChange fnExactConjugateOfWrong)

/-- 'laws.FnExactDominatesParted': WHATEVER THE INPUT: true; the input reads as it did. -/
def fnExactDominatesPartedSpec : ChangeSpec := { name := "fnExactDominatesParted", fn := fun _ => fun
  | [d1, d2] => { results := [.lit (.bool true)], args := [d1, d2] }
  | _ => none }
def fnExactDominatesPartedRow : OpenClaim := { program := "ytakelcboamjndab", sum := "e410ccba44735855d12fcc5f7f91becdad5a949a669cceaace6c81b0928112d2", func := "loop.example/g01104/laws.FnExactDominatesParted", spec := "fnExactDominatesParted", unfollowed := true, recurses := true, plainKeys := false, apart := false }
def FnExactDominatesPartedSaid : Prop := fnExactDominatesPartedRow.holds Try.pinned (OpenSpec.ofChange fnExactDominatesPartedSpec)

/-- ITS FALSE NEIGHBOUR: 'it returns false'. Refute it at one input. -/
def fnExactDominatesPartedWrong : ChangeSpec := { name := "fnExactDominatesParted", fn := fun _ => fun
  | [d1, d2] => { results := [.lit (.bool false)], args := [d1, d2] }
  | _ => none }
def FnExactDominatesPartedWrongFalsely : Prop := fnExactDominatesPartedRow.holds Try.pinned (OpenSpec.ofChange fnExactDominatesPartedWrong)

/- THE SECOND FORM. 'bulk': how many values and letters a reading holds, each counted each time it is reached (what is shared counts as often as it is met; a slice's spare places count too). A statement '..UptoSaid' is the law's where the arguments, and the package variables that the reading takes, are together of bulk at most 1048576: NARROWER than '..Said'. Prove '..Said' where nothing that the law and all that it calls make is longer than what came in: it says more and counts as full. Else prove '..UptoSaid'. A law counts once. -/
mutual
def uptoBulk {H : Type} : DataW H → Nat
  | .lit (.string bytes) => bytes.length + 1
  | .lit _ => 1
  | .nil => 1
  | .ptr d => uptoBulk d + 1
  | .slice elems spare => uptoBulkAll elems + uptoBulkAll spare + 1
  | .agg parts => uptoBulkAll parts + 1
  | .iface _ d => uptoBulk d + 1
  | .map entries => uptoBulkEntries entries + 1
  | .held _ => 1
def uptoBulkAll {H : Type} : List (DataW H) → Nat
  | [] => 0
  | d :: r => uptoBulk d + uptoBulkAll r
def uptoBulkEntries {H : Type} : List (Lit × DataW H) → Nat
  | [] => 0
  | x :: r => uptoBulkEntry x + uptoBulkEntries r
def uptoBulkEntry {H : Type} : Lit × DataW H → Nat
  | (.string bytes, d) => bytes.length + uptoBulk d + 1
  | (_, d) => uptoBulk d + 1
 end
def uptoSmall : (H : Type) → List (DataW H) → Bool := fun _ ds => decide (uptoBulkAll ds ≤ 1048576)
def OpenSpec.upto (s : _root_.Go.ChangeSpec) : _root_.Go.OpenSpec := { _root_.Go.OpenSpec.ofChange s with cond := some uptoSmall }

/-- 'laws.FnExactParentsOf', WHERE WHAT IT READS IS OF BULK AT MOST 1048576: true; the input reads as it did. -/
def fnExactParentsOfUptoRow : OpenClaim := { program := "ytakelcboamjndab", sum := "e410ccba44735855d12fcc5f7f91becdad5a949a669cceaace6c81b0928112d2", func := "loop.example/g01104/laws.FnExactParentsOf", spec := "fnExactParentsOf", unfollowed := true, recurses := true, plainKeys := false, apart := false, narrowed := true }
def FnExactParentsOfUptoSaid : Prop := fnExactParentsOfUptoRow.holds Try.pinned (OpenSpec.upto fnExactParentsOfSpec)

/-- 'laws.FnExactWordOfParents', WHERE WHAT IT READS IS OF BULK AT MOST 1048576: true; the input reads as it did. -/
def fnExactWordOfParentsUptoRow : OpenClaim := { program := "ytakelcboamjndab", sum := "e410ccba44735855d12fcc5f7f91becdad5a949a669cceaace6c81b0928112d2", func := "loop.example/g01104/laws.FnExactWordOfParents", spec := "fnExactWordOfParents", plainKeys := false, apart := false, narrowed := true }
def FnExactWordOfParentsUptoSaid : Prop := fnExactWordOfParentsUptoRow.holds Try.pinned (OpenSpec.upto fnExactWordOfParentsSpec)

/-- 'laws.FnExactHasCrossing', WHERE WHAT IT READS IS OF BULK AT MOST 1048576: true; the input reads as it did. -/
def fnExactHasCrossingUptoRow : OpenClaim := { program := "ytakelcboamjndab", sum := "e410ccba44735855d12fcc5f7f91becdad5a949a669cceaace6c81b0928112d2", func := "loop.example/g01104/laws.FnExactHasCrossing", spec := "fnExactHasCrossing", unfollowed := true, recurses := true, plainKeys := false, apart := false, narrowed := true }
def FnExactHasCrossingUptoSaid : Prop := fnExactHasCrossingUptoRow.holds Try.pinned (OpenSpec.upto fnExactHasCrossingSpec)

/-- 'laws.FnExactWordOfGrowth', WHERE WHAT IT READS IS OF BULK AT MOST 1048576: true; the input reads as it did. -/
def fnExactWordOfGrowthUptoRow : OpenClaim := { program := "ytakelcboamjndab", sum := "e410ccba44735855d12fcc5f7f91becdad5a949a669cceaace6c81b0928112d2", func := "loop.example/g01104/laws.FnExactWordOfGrowth", spec := "fnExactWordOfGrowth", unfollowed := true, recurses := true, plainKeys := false, apart := false, narrowed := true }
def FnExactWordOfGrowthUptoSaid : Prop := fnExactWordOfGrowthUptoRow.holds Try.pinned (OpenSpec.upto fnExactWordOfGrowthSpec)

/-- 'laws.FnExactGrowthOfWord', WHERE WHAT IT READS IS OF BULK AT MOST 1048576: true; the input reads as it did. -/
def fnExactGrowthOfWordUptoRow : OpenClaim := { program := "ytakelcboamjndab", sum := "e410ccba44735855d12fcc5f7f91becdad5a949a669cceaace6c81b0928112d2", func := "loop.example/g01104/laws.FnExactGrowthOfWord", spec := "fnExactGrowthOfWord", unfollowed := true, recurses := true, plainKeys := false, apart := false, narrowed := true }
def FnExactGrowthOfWordUptoSaid : Prop := fnExactGrowthOfWordUptoRow.holds Try.pinned (OpenSpec.upto fnExactGrowthOfWordSpec)

/-- 'laws.FnExactIsParted', WHERE WHAT IT READS IS OF BULK AT MOST 1048576: true; the input reads as it did. -/
def fnExactIsPartedUptoRow : OpenClaim := { program := "ytakelcboamjndab", sum := "e410ccba44735855d12fcc5f7f91becdad5a949a669cceaace6c81b0928112d2", func := "loop.example/g01104/laws.FnExactIsParted", spec := "fnExactIsParted", unfollowed := true, recurses := true, plainKeys := false, apart := false, narrowed := true }
def FnExactIsPartedUptoSaid : Prop := fnExactIsPartedUptoRow.holds Try.pinned (OpenSpec.upto fnExactIsPartedSpec)

/-- 'laws.FnExactCountParted', WHERE WHAT IT READS IS OF BULK AT MOST 1048576: true; the input reads as it did. -/
def fnExactCountPartedUptoRow : OpenClaim := { program := "ytakelcboamjndab", sum := "e410ccba44735855d12fcc5f7f91becdad5a949a669cceaace6c81b0928112d2", func := "loop.example/g01104/laws.FnExactCountParted", spec := "fnExactCountParted", unfollowed := true, recurses := true, plainKeys := false, apart := false, narrowed := true }
def FnExactCountPartedUptoSaid : Prop := fnExactCountPartedUptoRow.holds Try.pinned (OpenSpec.upto fnExactCountPartedSpec)

/-- 'laws.FnExactPartedOf', WHERE WHAT IT READS IS OF BULK AT MOST 1048576: true; the input reads as it did. -/
def fnExactPartedOfUptoRow : OpenClaim := { program := "ytakelcboamjndab", sum := "e410ccba44735855d12fcc5f7f91becdad5a949a669cceaace6c81b0928112d2", func := "loop.example/g01104/laws.FnExactPartedOf", spec := "fnExactPartedOf", unfollowed := true, recurses := true, plainKeys := false, apart := false, narrowed := true }
def FnExactPartedOfUptoSaid : Prop := fnExactPartedOfUptoRow.holds Try.pinned (OpenSpec.upto fnExactPartedOfSpec)

/-- 'laws.FnExactRankParted', WHERE WHAT IT READS IS OF BULK AT MOST 1048576: true; the input reads as it did. -/
def fnExactRankPartedUptoRow : OpenClaim := { program := "ytakelcboamjndab", sum := "e410ccba44735855d12fcc5f7f91becdad5a949a669cceaace6c81b0928112d2", func := "loop.example/g01104/laws.FnExactRankParted", spec := "fnExactRankParted", unfollowed := true, recurses := true, plainKeys := false, apart := false, narrowed := true }
def FnExactRankPartedUptoSaid : Prop := fnExactRankPartedUptoRow.holds Try.pinned (OpenSpec.upto fnExactRankPartedSpec)

/-- 'laws.FnExactPartedWith', WHERE WHAT IT READS IS OF BULK AT MOST 1048576: true; the input reads as it did. -/
def fnExactPartedWithUptoRow : OpenClaim := { program := "ytakelcboamjndab", sum := "e410ccba44735855d12fcc5f7f91becdad5a949a669cceaace6c81b0928112d2", func := "loop.example/g01104/laws.FnExactPartedWith", spec := "fnExactPartedWith", unfollowed := true, recurses := true, plainKeys := false, apart := false, narrowed := true }
def FnExactPartedWithUptoSaid : Prop := fnExactPartedWithUptoRow.holds Try.pinned (OpenSpec.upto fnExactPartedWithSpec)

/-- 'laws.FnExactConjugateOf', WHERE WHAT IT READS IS OF BULK AT MOST 1048576: true; the input reads as it did. -/
def fnExactConjugateOfUptoRow : OpenClaim := { program := "ytakelcboamjndab", sum := "e410ccba44735855d12fcc5f7f91becdad5a949a669cceaace6c81b0928112d2", func := "loop.example/g01104/laws.FnExactConjugateOf", spec := "fnExactConjugateOf", unfollowed := true, recurses := true, plainKeys := false, apart := false, narrowed := true }
def FnExactConjugateOfUptoSaid : Prop := fnExactConjugateOfUptoRow.holds Try.pinned (OpenSpec.upto fnExactConjugateOfSpec)

/-- 'laws.FnExactDominatesParted', WHERE WHAT IT READS IS OF BULK AT MOST 1048576: true; the input reads as it did. -/
def fnExactDominatesPartedUptoRow : OpenClaim := { program := "ytakelcboamjndab", sum := "e410ccba44735855d12fcc5f7f91becdad5a949a669cceaace6c81b0928112d2", func := "loop.example/g01104/laws.FnExactDominatesParted", spec := "fnExactDominatesParted", unfollowed := true, recurses := true, plainKeys := false, apart := false, narrowed := true }
def FnExactDominatesPartedUptoSaid : Prop := fnExactDominatesPartedUptoRow.holds Try.pinned (OpenSpec.upto fnExactDominatesPartedSpec)

end Rows
end Go.Proofs.Ytakelcboamjndab
