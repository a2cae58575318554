/-
  No cell of these rows narrows 'for every input' (looked for: loops, veiled, ifaces, maps, wideKeys, modest, calm, conditions, laid).
  DERIVED. THE GIVEN ROWS OF THIS SEAT. 14 by the template 'for every input the law returns true; each argument reads behind the call as it read before'; 0 by the template 'total and deterministic' (their statements: YteimfdpkodcfbaaTotals.lean).
  GIVEN WITH THE SEED: the statements are not yours to turn. If you find one false, say at which input.
  Laid BY PROGRAM, IN A SANDBOX (cutbox-rows.mjs): the forced cells as the released guide's own fill.sh prints them over the translation 64d01d729ad8056f… (all of the seat's roots in one cut). By AI agents, Wed Nov 11 2026. No macro, syntax, notation, axiom, sorry.
-/
import Derived.Test.YteimfdpkodcfbaaChecked
import GoSem.Claim
import GoSem.ClaimJoined
import GoSem.ClaimMapViews
import Derived.JoinedTies
import Derived.KernelRfl
namespace Go.Proofs.Yteimfdpkodcfbaa
/- THE CELL 'sum', in the pinned program and in every row, IS THE sha256 OF THE DUMP (.gsa) THAT YteimfdpkodcfbaaProg.lean LOADS. Nothing in Lean hashes anything: it is a label: what it is worth is what the hold of that sum in a sandbox is worth. -/
noncomputable def Try.pinned : Pinned := { name := "yteimfdpkodcfbaa", sum := "64d01d729ad8056f880d31b7a0ed1950eb870cc4db2b79a03b7d7c31471866f2", checked := Try.checked }
namespace Rows
def none {H : Type} : Left H := { results := [], args := [] }

/-- 'laws.FnExactLeastBruijn': WHATEVER THE INPUT: true; the input reads as it did. -/
def fnExactLeastBruijnSpec : ChangeSpec := { name := "fnExactLeastBruijn", fn := fun _ => fun
  | [d1, d2] => { results := [.lit (.bool true)], args := [d1, d2] }
  | _ => none }
def fnExactLeastBruijnRow : OpenClaim := { program := "yteimfdpkodcfbaa", sum := "64d01d729ad8056f880d31b7a0ed1950eb870cc4db2b79a03b7d7c31471866f2", func := "loop.example/g01104/laws.FnExactLeastBruijn", spec := "fnExactLeastBruijn", unfollowed := true, recurses := true, apart := false }
def FnExactLeastBruijnSaid : Prop := fnExactLeastBruijnRow.holds Try.pinned (OpenSpec.ofChange fnExactLeastBruijnSpec)

/-- ITS FALSE NEIGHBOUR: 'it returns false'. Refute it at one input. -/
def fnExactLeastBruijnWrong : ChangeSpec := { name := "fnExactLeastBruijn", fn := fun _ => fun
  | [d1, d2] => { results := [.lit (.bool false)], args := [d1, d2] }
  | _ => none }
def FnExactLeastBruijnWrongFalsely : Prop := fnExactLeastBruijnRow.holds Try.pinned (OpenSpec.ofChange fnExactLeastBruijnWrong)

/-- 'laws.FnExactGreedyBruijn': WHATEVER THE INPUT: true; the input reads as it did. -/
def fnExactGreedyBruijnSpec : ChangeSpec := { name := "fnExactGreedyBruijn", fn := fun _ => fun
  | [d1, d2] => { results := [.lit (.bool true)], args := [d1, d2] }
  | _ => none }
def fnExactGreedyBruijnRow : OpenClaim := { program := "yteimfdpkodcfbaa", sum := "64d01d729ad8056f880d31b7a0ed1950eb870cc4db2b79a03b7d7c31471866f2", func := "loop.example/g01104/laws.FnExactGreedyBruijn", spec := "fnExactGreedyBruijn", apart := false }
def FnExactGreedyBruijnSaid : Prop := fnExactGreedyBruijnRow.holds Try.pinned (OpenSpec.ofChange fnExactGreedyBruijnSpec)

/-- ITS FALSE NEIGHBOUR: 'it returns false'. Refute it at one input. -/
def fnExactGreedyBruijnWrong : ChangeSpec := { name := "fnExactGreedyBruijn", fn := fun _ => fun
  | [d1, d2] => { results := [.lit (.bool false)], args := [d1, d2] }
  | _ => none }
def FnExactGreedyBruijnWrongFalsely : Prop := fnExactGreedyBruijnRow.holds Try.pinned (OpenSpec.ofChange fnExactGreedyBruijnWrong)

/-- 'laws.FnExactEulerBruijn': WHATEVER THE INPUT: true; the input reads as it did. -/
def fnExactEulerBruijnSpec : ChangeSpec := { name := "fnExactEulerBruijn", fn := fun _ => fun
  | [d1, d2] => { results := [.lit (.bool true)], args := [d1, d2] }
  | _ => none }
def fnExactEulerBruijnRow : OpenClaim := { program := "yteimfdpkodcfbaa", sum := "64d01d729ad8056f880d31b7a0ed1950eb870cc4db2b79a03b7d7c31471866f2", func := "loop.example/g01104/laws.FnExactEulerBruijn", spec := "fnExactEulerBruijn", unfollowed := true, recurses := true, apart := false }
def FnExactEulerBruijnSaid : Prop := fnExactEulerBruijnRow.holds Try.pinned (OpenSpec.ofChange fnExactEulerBruijnSpec)

/-- ITS FALSE NEIGHBOUR: 'it returns false'. Refute it at one input. -/
def fnExactEulerBruijnWrong : ChangeSpec := { name := "fnExactEulerBruijn", fn := fun _ => fun
  | [d1, d2] => { results := [.lit (.bool false)], args := [d1, d2] }
  | _ => none }
def FnExactEulerBruijnWrongFalsely : Prop := fnExactEulerBruijnRow.holds Try.pinned (OpenSpec.ofChange fnExactEulerBruijnWrong)

/-- 'laws.FnExactAllBruijn': WHATEVER THE INPUT: true; the input reads as it did. -/
def fnExactAllBruijnSpec : ChangeSpec := { name := "fnExactAllBruijn", fn := fun _ => fun
  | [d1, d2] => { results := [.lit (.bool true)], args := [d1, d2] }
  | _ => none }
def fnExactAllBruijnRow : OpenClaim := { program := "yteimfdpkodcfbaa", sum := "64d01d729ad8056f880d31b7a0ed1950eb870cc4db2b79a03b7d7c31471866f2", func := "loop.example/g01104/laws.FnExactAllBruijn", spec := "fnExactAllBruijn", unfollowed := true, recurses := true, apart := false }
def FnExactAllBruijnSaid : Prop := fnExactAllBruijnRow.holds Try.pinned (OpenSpec.ofChange fnExactAllBruijnSpec)

/-- ITS FALSE NEIGHBOUR: 'it returns false'. Refute it at one input. -/
def fnExactAllBruijnWrong : ChangeSpec := { name := "fnExactAllBruijn", fn := fun _ => fun
  | [d1, d2] => { results := [.lit (.bool false)], args := [d1, d2] }
  | _ => none }
def FnExactAllBruijnWrongFalsely : Prop := fnExactAllBruijnRow.holds Try.pinned (OpenSpec.ofChange fnExactAllBruijnWrong)

/-- 'laws.FnExactWithZero': WHATEVER THE INPUT: true; the input reads as it did. -/
def fnExactWithZeroSpec : ChangeSpec := { name := "fnExactWithZero", fn := fun _ => fun
  | [d1, d2, d3] => { results := [.lit (.bool true)], args := [d1, d2, d3] }
  | _ => none }
def fnExactWithZeroRow : OpenClaim := { program := "yteimfdpkodcfbaa", sum := "64d01d729ad8056f880d31b7a0ed1950eb870cc4db2b79a03b7d7c31471866f2", func := "loop.example/g01104/laws.FnExactWithZero", spec := "fnExactWithZero", unfollowed := true, recurses := true, apart := false }
def FnExactWithZeroSaid : Prop := fnExactWithZeroRow.holds Try.pinned (OpenSpec.ofChange fnExactWithZeroSpec)

/-- ITS FALSE NEIGHBOUR: 'it returns false'. Refute it at one input. -/
def fnExactWithZeroWrong : ChangeSpec := { name := "fnExactWithZero", fn := fun _ => fun
  | [d1, d2, d3] => { results := [.lit (.bool false)], args := [d1, d2, d3] }
  | _ => none }
def FnExactWithZeroWrongFalsely : Prop := fnExactWithZeroRow.holds Try.pinned (OpenSpec.ofChange fnExactWithZeroWrong)

/-- 'laws.FnExactIsPairCycle': WHATEVER THE INPUT: true; the input reads as it did. -/
def fnExactIsPairCycleSpec : ChangeSpec := { name := "fnExactIsPairCycle", fn := fun _ => fun
  | [d1, d2] => { results := [.lit (.bool true)], args := [d1, d2] }
  | _ => none }
def fnExactIsPairCycleRow : OpenClaim := { program := "yteimfdpkodcfbaa", sum := "64d01d729ad8056f880d31b7a0ed1950eb870cc4db2b79a03b7d7c31471866f2", func := "loop.example/g01104/laws.FnExactIsPairCycle", spec := "fnExactIsPairCycle", unfollowed := true, recurses := true, apart := false }
def FnExactIsPairCycleSaid : Prop := fnExactIsPairCycleRow.holds Try.pinned (OpenSpec.ofChange fnExactIsPairCycleSpec)

/-- ITS FALSE NEIGHBOUR: 'it returns false'. Refute it at one input. -/
def fnExactIsPairCycleWrong : ChangeSpec := { name := "fnExactIsPairCycle", fn := fun _ => fun
  | [d1, d2] => { results := [.lit (.bool false)], args := [d1, d2] }
  | _ => none }
def FnExactIsPairCycleWrongFalsely : Prop := fnExactIsPairCycleRow.holds Try.pinned (OpenSpec.ofChange fnExactIsPairCycleWrong)

/-- 'laws.FnExactPairCycle': WHATEVER THE INPUT: true; the input reads as it did. -/
def fnExactPairCycleSpec : ChangeSpec := { name := "fnExactPairCycle", fn := fun _ => fun
  | [d] => { results := [.lit (.bool true)], args := [d] }
  | _ => none }
def fnExactPairCycleRow : OpenClaim := { program := "yteimfdpkodcfbaa", sum := "64d01d729ad8056f880d31b7a0ed1950eb870cc4db2b79a03b7d7c31471866f2", func := "loop.example/g01104/laws.FnExactPairCycle", spec := "fnExactPairCycle", unfollowed := true, recurses := true, apart := false }
def FnExactPairCycleSaid : Prop := fnExactPairCycleRow.holds Try.pinned (OpenSpec.ofChange fnExactPairCycleSpec)

/-- ITS FALSE NEIGHBOUR: 'it returns false'. Refute it at one input. -/
def fnExactPairCycleWrong : ChangeSpec := { name := "fnExactPairCycle", fn := fun _ => fun
  | [d] => { results := [.lit (.bool false)], args := [d] }
  | _ => none }
def FnExactPairCycleWrongFalsely : Prop := fnExactPairCycleRow.holds Try.pinned (OpenSpec.ofChange fnExactPairCycleWrong)

/-- 'laws.FnExactPairPlace': WHATEVER THE INPUT: true; the input reads as it did. -/
def fnExactPairPlaceSpec : ChangeSpec := { name := "fnExactPairPlace", fn := fun _ => fun
  | [d1, d2, d3, d4] => { results := [.lit (.bool true)], args := [d1, d2, d3, d4] }
  | _ => none }
def fnExactPairPlaceRow : OpenClaim := { program := "yteimfdpkodcfbaa", sum := "64d01d729ad8056f880d31b7a0ed1950eb870cc4db2b79a03b7d7c31471866f2", func := "loop.example/g01104/laws.FnExactPairPlace", spec := "fnExactPairPlace", unfollowed := true, recurses := true, apart := false }
def FnExactPairPlaceSaid : Prop := fnExactPairPlaceRow.holds Try.pinned (OpenSpec.ofChange fnExactPairPlaceSpec)

/-- ITS FALSE NEIGHBOUR: 'it returns false'. Refute it at one input. -/
def fnExactPairPlaceWrong : ChangeSpec := { name := "fnExactPairPlace", fn := fun _ => fun
  | [d1, d2, d3, d4] => { results := [.lit (.bool false)], args := [d1, d2, d3, d4] }
  | _ => none }
def FnExactPairPlaceWrongFalsely : Prop := fnExactPairPlaceRow.holds Try.pinned (OpenSpec.ofChange fnExactPairPlaceWrong)

/-- 'laws.FnExactIsOrderCycle': WHATEVER THE INPUT: true; the input reads as it did. -/
def fnExactIsOrderCycleSpec : ChangeSpec := { name := "fnExactIsOrderCycle", fn := fun _ => fun
  | [d1, d2] => { results := [.lit (.bool true)], args := [d1, d2] }
  | _ => none }
def fnExactIsOrderCycleRow : OpenClaim := { program := "yteimfdpkodcfbaa", sum := "64d01d729ad8056f880d31b7a0ed1950eb870cc4db2b79a03b7d7c31471866f2", func := "loop.example/g01104/laws.FnExactIsOrderCycle", spec := "fnExactIsOrderCycle", unfollowed := true, recurses := true, apart := false }
def FnExactIsOrderCycleSaid : Prop := fnExactIsOrderCycleRow.holds Try.pinned (OpenSpec.ofChange fnExactIsOrderCycleSpec)

/-- ITS FALSE NEIGHBOUR: 'it returns false'. Refute it at one input. -/
def fnExactIsOrderCycleWrong : ChangeSpec := { name := "fnExactIsOrderCycle", fn := fun _ => fun
  | [d1, d2] => { results := [.lit (.bool false)], args := [d1, d2] }
  | _ => none }
def FnExactIsOrderCycleWrongFalsely : Prop := fnExactIsOrderCycleRow.holds Try.pinned (OpenSpec.ofChange fnExactIsOrderCycleWrong)

/-- 'laws.FnExactOrderCycle': WHATEVER THE INPUT: true; the input reads as it did. -/
def fnExactOrderCycleSpec : ChangeSpec := { name := "fnExactOrderCycle", fn := fun _ => fun
  | [d] => { results := [.lit (.bool true)], args := [d] }
  | _ => none }
def fnExactOrderCycleRow : OpenClaim := { program := "yteimfdpkodcfbaa", sum := "64d01d729ad8056f880d31b7a0ed1950eb870cc4db2b79a03b7d7c31471866f2", func := "loop.example/g01104/laws.FnExactOrderCycle", spec := "fnExactOrderCycle", unfollowed := true, recurses := true, apart := false }
def FnExactOrderCycleSaid : Prop := fnExactOrderCycleRow.holds Try.pinned (OpenSpec.ofChange fnExactOrderCycleSpec)

/-- ITS FALSE NEIGHBOUR: 'it returns false'. Refute it at one input. -/
def fnExactOrderCycleWrong : ChangeSpec := { name := "fnExactOrderCycle", fn := fun _ => fun
  | [d] => { results := [.lit (.bool false)], args := [d] }
  | _ => none }
def FnExactOrderCycleWrongFalsely : Prop := fnExactOrderCycleRow.holds Try.pinned (OpenSpec.ofChange fnExactOrderCycleWrong)

/-- 'laws.FnExactIsTorus': WHATEVER THE INPUT: true; the input reads as it did. -/
def fnExactIsTorusSpec : ChangeSpec := { name := "fnExactIsTorus", fn := fun _ => fun
  | [d] => { results := [.lit (.bool true)], args := [d] }
  | _ => none }
def fnExactIsTorusRow : OpenClaim := { program := "yteimfdpkodcfbaa", sum := "64d01d729ad8056f880d31b7a0ed1950eb870cc4db2b79a03b7d7c31471866f2", func := "loop.example/g01104/laws.FnExactIsTorus", spec := "fnExactIsTorus", unfollowed := true, recurses := true, apart := false }
def FnExactIsTorusSaid : Prop := fnExactIsTorusRow.holds Try.pinned (OpenSpec.ofChange fnExactIsTorusSpec)

/-- ITS FALSE NEIGHBOUR: 'it returns false'. Refute it at one input. -/
def fnExactIsTorusWrong : ChangeSpec := { name := "fnExactIsTorus", fn := fun _ => fun
  | [d] => { results := [.lit (.bool false)], args := [d] }
  | _ => none }
def FnExactIsTorusWrongFalsely : Prop := fnExactIsTorusRow.holds Try.pinned (OpenSpec.ofChange fnExactIsTorusWrong)

/-- 'laws.FnExactFirstTorus': WHATEVER THE INPUT: true; the input reads as it did. -/
def fnExactFirstTorusSpec : ChangeSpec := { name := "fnExactFirstTorus", fn := fun _ => fun
  | [d] => { results := [.lit (.bool true)], args := [d] }
  | _ => none }
def fnExactFirstTorusRow : OpenClaim := { program := "yteimfdpkodcfbaa", sum := "64d01d729ad8056f880d31b7a0ed1950eb870cc4db2b79a03b7d7c31471866f2", func := "loop.example/g01104/laws.FnExactFirstTorus", spec := "fnExactFirstTorus", unfollowed := true, recurses := true, apart := false }
def FnExactFirstTorusSaid : Prop := fnExactFirstTorusRow.holds Try.pinned (OpenSpec.ofChange fnExactFirstTorusSpec)

/-- ITS FALSE NEIGHBOUR: 'it returns false'. Refute it at one input. -/
def fnExactFirstTorusWrong : ChangeSpec := { name := "fnExactFirstTorus", fn := fun _ => fun
  | [d] => { results := [.lit (.bool false)], args := [d] }
  | _ => none }
def FnExactFirstTorusWrongFalsely : Prop := fnExactFirstTorusRow.holds Try.pinned (OpenSpec.ofChange fnExactFirstTorusWrong)

/-- 'laws.FnExactTorusPlace': WHATEVER THE INPUT: true; the input reads as it did. -/
def fnExactTorusPlaceSpec : ChangeSpec := { name := "fnExactTorusPlace", fn := fun _ => fun
  | [d1, d2] => { results := [.lit (.bool true)], args := [d1, d2] }
  | _ => none }
def fnExactTorusPlaceRow : OpenClaim := { program := "yteimfdpkodcfbaa", sum := "64d01d729ad8056f880d31b7a0ed1950eb870cc4db2b79a03b7d7c31471866f2", func := "loop.example/g01104/laws.FnExactTorusPlace", spec := "fnExactTorusPlace", unfollowed := true, recurses := true, apart := false }
def FnExactTorusPlaceSaid : Prop := fnExactTorusPlaceRow.holds Try.pinned (OpenSpec.ofChange fnExactTorusPlaceSpec)

/-- ITS FALSE NEIGHBOUR: 'it returns false'. Refute it at one input. -/
def fnExactTorusPlaceWrong : ChangeSpec := { name := "fnExactTorusPlace", fn := fun _ => fun
  | [d1, d2] => { results := [.lit (.bool false)], args := [d1, d2] }
  | _ => none }
def FnExactTorusPlaceWrongFalsely : Prop := fnExactTorusPlaceRow.holds Try.pinned (OpenSpec.ofChange fnExactTorusPlaceWrong)

/-- 'laws.FnExactTurnTorus': WHATEVER THE INPUT: true; the input reads as it did. -/
def fnExactTurnTorusSpec : ChangeSpec := { name := "fnExactTurnTorus", fn := fun _ => fun
  | [d1, d2, d3] => { results := [.lit (.bool true)], args := [d1, d2, d3] }
  | _ => none }
def fnExactTurnTorusRow : OpenClaim := { program := "yteimfdpkodcfbaa", sum := "64d01d729ad8056f880d31b7a0ed1950eb870cc4db2b79a03b7d7c31471866f2", func := "loop.example/g01104/laws.FnExactTurnTorus", spec := "fnExactTurnTorus", apart := false }
def FnExactTurnTorusSaid : Prop := fnExactTurnTorusRow.holds Try.pinned (OpenSpec.ofChange fnExactTurnTorusSpec)

/-- ITS FALSE NEIGHBOUR: 'it returns false'. Refute it at one input. -/
def fnExactTurnTorusWrong : ChangeSpec := { name := "fnExactTurnTorus", fn := fun _ => fun
  | [d1, d2, d3] => { results := [.lit (.bool false)], args := [d1, d2, d3] }
  | _ => none }
def FnExactTurnTorusWrongFalsely : Prop := fnExactTurnTorusRow.holds Try.pinned (OpenSpec.ofChange fnExactTurnTorusWrong)

/- THE SECOND FORM. 'bulk': how many values and letters a reading holds, each counted each time it is reached (what is shared counts as often as it is met; a slice's spare places count too). A statement '..UptoSaid' is the law's where the arguments, and the package variables that the reading takes, are together of bulk at most 1048576: NARROWER than '..Said'. Prove '..Said' where nothing that the law and all that it calls make is longer than what came in: it says more and counts as full. Else prove '..UptoSaid'. A law counts once. -/
mutual
def uptoBulk {H : Type} : DataW H → Nat
  | .lit (.string bytes) => bytes.length + 1
  | .lit _ => 1
  | .nil => 1
  | .ptr d => uptoBulk d + 1
  | .slice elems spare => uptoBulkAll elems + uptoBulkAll spare + 1
  | .agg parts => uptoBulkAll parts + 1
  | .iface _ d => uptoBulk d + 1
  | .map entries => uptoBulkEntries entries + 1
  | .held _ => 1
def uptoBulkAll {H : Type} : List (DataW H) → Nat
  | [] => 0
  | d :: r => uptoBulk d + uptoBulkAll r
def uptoBulkEntries {H : Type} : List (Lit × DataW H) → Nat
  | [] => 0
  | x :: r => uptoBulkEntry x + uptoBulkEntries r
def uptoBulkEntry {H : Type} : Lit × DataW H → Nat
  | (.string bytes, d) => bytes.length + uptoBulk d + 1
  | (_, d) => uptoBulk d + 1
 end
def uptoSmall : (H : Type) → List (DataW H) → Bool := fun _ ds => decide (uptoBulkAll ds ≤ 1048576)
def OpenSpec.upto (s : _root_.Go.ChangeSpec) : _root_.Go.OpenSpec := { _root_.Go.OpenSpec.ofChange s with cond := some uptoSmall }

/-- 'laws.FnExactLeastBruijn', WHERE WHAT IT READS IS OF BULK AT MOST 1048576: true; the input reads as it did. -/
def fnExactLeastBruijnUptoRow : OpenClaim := { program := "yteimfdpkodcfbaa", sum := "64d01d729ad8056f880d31b7a0ed1950eb870cc4db2b79a03b7d7c31471866f2", func := "loop.example/g01104/laws.FnExactLeastBruijn", spec := "fnExactLeastBruijn", unfollowed := true, recurses := true, apart := false, narrowed := true }
def FnExactLeastBruijnUptoSaid : Prop := fnExactLeastBruijnUptoRow.holds Try.pinned (OpenSpec.upto fnExactLeastBruijnSpec)

/-- 'laws.FnExactGreedyBruijn', WHERE WHAT IT READS IS OF BULK AT MOST 1048576: true; the input reads as it did. -/
def fnExactGreedyBruijnUptoRow : OpenClaim := { program := "yteimfdpkodcfbaa", sum := "64d01d729ad8056f880d31b7a0ed1950eb870cc4db2b79a03b7d7c31471866f2", func := "loop.example/g01104/laws.FnExactGreedyBruijn", spec := "fnExactGreedyBruijn", apart := false, narrowed := true }
def FnExactGreedyBruijnUptoSaid : Prop := fnExactGreedyBruijnUptoRow.holds Try.pinned (OpenSpec.upto fnExactGreedyBruijnSpec)

/-- 'laws.FnExactEulerBruijn', WHERE WHAT IT READS IS OF BULK AT MOST 1048576: true; the input reads as it did. -/
def fnExactEulerBruijnUptoRow : OpenClaim := { program := "yteimfdpkodcfbaa", sum := "64d01d729ad8056f880d31b7a0ed1950eb870cc4db2b79a03b7d7c31471866f2", func := "loop.example/g01104/laws.FnExactEulerBruijn", spec := "fnExactEulerBruijn", unfollowed := true, recurses := true, apart := false, narrowed := true }
def FnExactEulerBruijnUptoSaid : Prop := fnExactEulerBruijnUptoRow.holds Try.pinned (OpenSpec.upto fnExactEulerBruijnSpec)

/-- 'laws.FnExactAllBruijn', WHERE WHAT IT READS IS OF BULK AT MOST 1048576: true; the input reads as it did. -/
def fnExactAllBruijnUptoRow : OpenClaim := { program := "yteimfdpkodcfbaa", sum := "64d01d729ad8056f880d31b7a0ed1950eb870cc4db2b79a03b7d7c31471866f2", func := "loop.example/g01104/laws.FnExactAllBruijn", spec := "fnExactAllBruijn", unfollowed := true, recurses := true, apart := false, narrowed := true }
def FnExactAllBruijnUptoSaid : Prop := fnExactAllBruijnUptoRow.holds Try.pinned (OpenSpec.upto fnExactAllBruijnSpec)

/-- 'laws.FnExactWithZero', WHERE WHAT IT READS IS OF BULK AT MOST 1048576: true; the input reads as it did. -/
def fnExactWithZeroUptoRow : OpenClaim := { program := "yteimfdpkodcfbaa", sum := "64d01d729ad8056f880d31b7a0ed1950eb870cc4db2b79a03b7d7c31471866f2", func := "loop.example/g01104/laws.FnExactWithZero", spec := "fnExactWithZero", unfollowed := true, recurses := true, apart := false, narrowed := true }
def FnExactWithZeroUptoSaid : Prop := fnExactWithZeroUptoRow.holds Try.pinned (OpenSpec.upto fnExactWithZeroSpec)

/-- 'laws.FnExactIsPairCycle', WHERE WHAT IT READS IS OF BULK AT MOST 1048576: true; the input reads as it did. -/
def fnExactIsPairCycleUptoRow : OpenClaim := { program := "yteimfdpkodcfbaa", sum := "64d01d729ad8056f880d31b7a0ed1950eb870cc4db2b79a03b7d7c31471866f2", func := "loop.example/g01104/laws.FnExactIsPairCycle", spec := "fnExactIsPairCycle", unfollowed := true, recurses := true, apart := false, narrowed := true }
def FnExactIsPairCycleUptoSaid : Prop := fnExactIsPairCycleUptoRow.holds Try.pinned (OpenSpec.upto fnExactIsPairCycleSpec)

/-- 'laws.FnExactPairCycle', WHERE WHAT IT READS IS OF BULK AT MOST 1048576: true; the input reads as it did. -/
def fnExactPairCycleUptoRow : OpenClaim := { program := "yteimfdpkodcfbaa", sum := "64d01d729ad8056f880d31b7a0ed1950eb870cc4db2b79a03b7d7c31471866f2", func := "loop.example/g01104/laws.FnExactPairCycle", spec := "fnExactPairCycle", unfollowed := true, recurses := true, apart := false, narrowed := true }
def FnExactPairCycleUptoSaid : Prop := fnExactPairCycleUptoRow.holds Try.pinned (OpenSpec.upto fnExactPairCycleSpec)

/-- 'laws.FnExactPairPlace', WHERE WHAT IT READS IS OF BULK AT MOST 1048576: true; the input reads as it did. -/
def fnExactPairPlaceUptoRow : OpenClaim := { program := "yteimfdpkodcfbaa", sum := "64d01d729ad8056f880d31b7a0ed1950eb870cc4db2b79a03b7d7c31471866f2", func := "loop.example/g01104/laws.FnExactPairPlace", spec := "fnExactPairPlace", unfollowed := true, recurses := true, apart := false, narrowed := true }
def FnExactPairPlaceUptoSaid : Prop := fnExactPairPlaceUptoRow.holds Try.pinned (OpenSpec.upto fnExactPairPlaceSpec)

/-- 'laws.FnExactIsOrderCycle', WHERE WHAT IT READS IS OF BULK AT MOST 1048576: true; the input reads as it did. -/
def fnExactIsOrderCycleUptoRow : OpenClaim := { program := "yteimfdpkodcfbaa", sum := "64d01d729ad8056f880d31b7a0ed1950eb870cc4db2b79a03b7d7c31471866f2", func := "loop.example/g01104/laws.FnExactIsOrderCycle", spec := "fnExactIsOrderCycle", unfollowed := true, recurses := true, apart := false, narrowed := true }
def FnExactIsOrderCycleUptoSaid : Prop := fnExactIsOrderCycleUptoRow.holds Try.pinned (OpenSpec.upto fnExactIsOrderCycleSpec)

/-- 'laws.FnExactOrderCycle', WHERE WHAT IT READS IS OF BULK AT MOST 1048576: true; the input reads as it did. -/
def fnExactOrderCycleUptoRow : OpenClaim := { program := "yteimfdpkodcfbaa", sum := "64d01d729ad8056f880d31b7a0ed1950eb870cc4db2b79a03b7d7c31471866f2", func := "loop.example/g01104/laws.FnExactOrderCycle", spec := "fnExactOrderCycle", unfollowed := true, recurses := true, apart := false, narrowed := true }
def FnExactOrderCycleUptoSaid : Prop := fnExactOrderCycleUptoRow.holds Try.pinned (OpenSpec.upto fnExactOrderCycleSpec)

/-- 'laws.FnExactIsTorus', WHERE WHAT IT READS IS OF BULK AT MOST 1048576: true; the input reads as it did. -/
def fnExactIsTorusUptoRow : OpenClaim := { program := "yteimfdpkodcfbaa", sum := "64d01d729ad8056f880d31b7a0ed1950eb870cc4db2b79a03b7d7c31471866f2", func := "loop.example/g01104/laws.FnExactIsTorus", spec := "fnExactIsTorus", unfollowed := true, recurses := true, apart := false, narrowed := true }
def FnExactIsTorusUptoSaid : Prop := fnExactIsTorusUptoRow.holds Try.pinned (OpenSpec.upto fnExactIsTorusSpec)

/-- 'laws.FnExactFirstTorus', WHERE WHAT IT READS IS OF BULK AT MOST 1048576: true; the input reads as it did. -/
def fnExactFirstTorusUptoRow : OpenClaim := { program := "yteimfdpkodcfbaa", sum := "64d01d729ad8056f880d31b7a0ed1950eb870cc4db2b79a03b7d7c31471866f2", func := "loop.example/g01104/laws.FnExactFirstTorus", spec := "fnExactFirstTorus", unfollowed := true, recurses := true, apart := false, narrowed := true }
def FnExactFirstTorusUptoSaid : Prop := fnExactFirstTorusUptoRow.holds Try.pinned (OpenSpec.upto fnExactFirstTorusSpec)

/-- 'laws.FnExactTorusPlace', WHERE WHAT IT READS IS OF BULK AT MOST 1048576: true; the input reads as it did. -/
def fnExactTorusPlaceUptoRow : OpenClaim := { program := "yteimfdpkodcfbaa", sum := "64d01d729ad8056f880d31b7a0ed1950eb870cc4db2b79a03b7d7c31471866f2", func := "loop.example/g01104/laws.FnExactTorusPlace", spec := "fnExactTorusPlace", unfollowed := true, recurses := true, apart := false, narrowed := true }
def FnExactTorusPlaceUptoSaid : Prop := fnExactTorusPlaceUptoRow.holds Try.pinned (OpenSpec.upto fnExactTorusPlaceSpec)

/-- 'laws.FnExactTurnTorus', WHERE WHAT IT READS IS OF BULK AT MOST 1048576: true; the input reads as it did. -/
def fnExactTurnTorusUptoRow : OpenClaim := { program := "yteimfdpkodcfbaa", sum := "64d01d729ad8056f880d31b7a0ed1950eb870cc4db2b79a03b7d7c31471866f2", func := "loop.example/g01104/laws.FnExactTurnTorus", spec := "fnExactTurnTorus", apart := false, narrowed := true }
def FnExactTurnTorusUptoSaid : Prop := fnExactTurnTorusUptoRow.holds Try.pinned (OpenSpec.upto fnExactTurnTorusSpec)

end Rows
end Go.Proofs.Yteimfdpkodcfbaa
