/-
  No cell of these rows narrows 'for every input' (looked for: loops, veiled, ifaces, maps, wideKeys, modest, calm, conditions, laid).
  DERIVED. THE GIVEN ROWS OF THIS SEAT. 10 by the template 'for every input the law returns true; each argument reads behind the call as it read before'; 0 by the template 'total and deterministic' (their statements: YtaajfpjekfmddaaTotals.lean).
  GIVEN WITH THE SEED: the statements are not yours to turn. If you find one false, say at which input.
  Laid BY PROGRAM, IN A SANDBOX (cutbox-rows.mjs): the forced cells as the released guide's own fill.sh prints them over the translation e749eacdad9eacce… (all of the seat's roots in one cut). By AI agents, Wed Nov 11 2026. No macro, syntax, notation, axiom, sorry.
-/
import Derived.Test.YtaajfpjekfmddaaChecked
import GoSem.Claim
import GoSem.ClaimJoined
import GoSem.ClaimMapViews
import Derived.JoinedTies
import Derived.KernelRfl
namespace Go.Proofs.Ytaajfpjekfmddaa
/- THE CELL 'sum', in the pinned program and in every row, IS THE sha256 OF THE DUMP (.gsa) THAT YtaajfpjekfmddaaProg.lean LOADS. Nothing in Lean hashes anything: it is a label: what it is worth is what the hold of that sum in a sandbox is worth. -/
noncomputable def Try.pinned : Pinned := { name := "ytaajfpjekfmddaa", sum := "e749eacdad9eaccec32667355b443eaf12c8b63dc64442b054bce105f6e293d1", checked := Try.checked }
namespace Rows
def none {H : Type} : Left H := { results := [], args := [] }

/-- 'laws.FnExactBracketText': WHATEVER THE INPUT: true; the input reads as it did. -/
def fnExactBracketTextSpec : ChangeSpec := { name := "fnExactBracketText", fn := fun _ => fun
  | [d] => { results := [.lit (.bool true)], args := [d] }
  | _ => none }
def fnExactBracketTextRow : OpenClaim := { program := "ytaajfpjekfmddaa", sum := "e749eacdad9eaccec32667355b443eaf12c8b63dc64442b054bce105f6e293d1", func := "loop.example/g01104/laws.FnExactBracketText", spec := "fnExactBracketText", recurses := true, apart := false }
def FnExactBracketTextSaid : Prop := fnExactBracketTextRow.holds Try.pinned (OpenSpec.ofChange fnExactBracketTextSpec)

/-- ITS FALSE NEIGHBOUR: 'it returns false'. Refute it at one input. -/
def fnExactBracketTextWrong : ChangeSpec := { name := "fnExactBracketText", fn := fun _ => fun
  | [d] => { results := [.lit (.bool false)], args := [d] }
  | _ => none }
def FnExactBracketTextWrongFalsely : Prop := fnExactBracketTextRow.holds Try.pinned (OpenSpec.ofChange fnExactBracketTextWrong)

/-- 'laws.FnExactNecklacesOf': WHATEVER THE INPUT: true; the input reads as it did. -/
def fnExactNecklacesOfSpec : ChangeSpec := { name := "fnExactNecklacesOf", fn := fun _ => fun
  | [d1, d2] => { results := [.lit (.bool true)], args := [d1, d2] }
  | _ => none }
def fnExactNecklacesOfRow : OpenClaim := { program := "ytaajfpjekfmddaa", sum := "e749eacdad9eaccec32667355b443eaf12c8b63dc64442b054bce105f6e293d1", func := "loop.example/g01104/laws.FnExactNecklacesOf", spec := "fnExactNecklacesOf", unfollowed := true, recurses := true, apart := false }
def FnExactNecklacesOfSaid : Prop := fnExactNecklacesOfRow.holds Try.pinned (OpenSpec.ofChange fnExactNecklacesOfSpec)

/-- ITS FALSE NEIGHBOUR: 'it returns false'. Refute it at one input. -/
def fnExactNecklacesOfWrong : ChangeSpec := { name := "fnExactNecklacesOf", fn := fun _ => fun
  | [d1, d2] => { results := [.lit (.bool false)], args := [d1, d2] }
  | _ => none }
def FnExactNecklacesOfWrongFalsely : Prop := fnExactNecklacesOfRow.holds Try.pinned (OpenSpec.ofChange fnExactNecklacesOfWrong)

/-- 'laws.FnExactWordText': WHATEVER THE INPUT: true; the input reads as it did. -/
def fnExactWordTextSpec : ChangeSpec := { name := "fnExactWordText", fn := fun _ => fun
  | [d] => { results := [.lit (.bool true)], args := [d] }
  | _ => none }
def fnExactWordTextRow : OpenClaim := { program := "ytaajfpjekfmddaa", sum := "e749eacdad9eaccec32667355b443eaf12c8b63dc64442b054bce105f6e293d1", func := "loop.example/g01104/laws.FnExactWordText", spec := "fnExactWordText", apart := false }
def FnExactWordTextSaid : Prop := fnExactWordTextRow.holds Try.pinned (OpenSpec.ofChange fnExactWordTextSpec)

/-- ITS FALSE NEIGHBOUR: 'it returns false'. Refute it at one input. -/
def fnExactWordTextWrong : ChangeSpec := { name := "fnExactWordText", fn := fun _ => fun
  | [d] => { results := [.lit (.bool false)], args := [d] }
  | _ => none }
def FnExactWordTextWrongFalsely : Prop := fnExactWordTextRow.holds Try.pinned (OpenSpec.ofChange fnExactWordTextWrong)

/-- 'laws.FnExactParseWord': WHATEVER THE INPUT: true; the input reads as it did. -/
def fnExactParseWordSpec : ChangeSpec := { name := "fnExactParseWord", fn := fun _ => fun
  | [d] => { results := [.lit (.bool true)], args := [d] }
  | _ => none }
def fnExactParseWordRow : OpenClaim := { program := "ytaajfpjekfmddaa", sum := "e749eacdad9eaccec32667355b443eaf12c8b63dc64442b054bce105f6e293d1", func := "loop.example/g01104/laws.FnExactParseWord", spec := "fnExactParseWord", apart := false }
def FnExactParseWordSaid : Prop := fnExactParseWordRow.holds Try.pinned (OpenSpec.ofChange fnExactParseWordSpec)

/-- ITS FALSE NEIGHBOUR: 'it returns false'. Refute it at one input. -/
def fnExactParseWordWrong : ChangeSpec := { name := "fnExactParseWord", fn := fun _ => fun
  | [d] => { results := [.lit (.bool false)], args := [d] }
  | _ => none }
def FnExactParseWordWrongFalsely : Prop := fnExactParseWordRow.holds Try.pinned (OpenSpec.ofChange fnExactParseWordWrong)

/-- 'laws.FnExactIsCycle': WHATEVER THE INPUT: true; the input reads as it did. -/
def fnExactIsCycleSpec : ChangeSpec := { name := "fnExactIsCycle", fn := fun _ => fun
  | [d1, d2] => { results := [.lit (.bool true)], args := [d1, d2] }
  | _ => none }
def fnExactIsCycleRow : OpenClaim := { program := "ytaajfpjekfmddaa", sum := "e749eacdad9eaccec32667355b443eaf12c8b63dc64442b054bce105f6e293d1", func := "loop.example/g01104/laws.FnExactIsCycle", spec := "fnExactIsCycle", apart := false }
def FnExactIsCycleSaid : Prop := fnExactIsCycleRow.holds Try.pinned (OpenSpec.ofChange fnExactIsCycleSpec)

/-- ITS FALSE NEIGHBOUR: 'it returns false'. Refute it at one input. -/
def fnExactIsCycleWrong : ChangeSpec := { name := "fnExactIsCycle", fn := fun _ => fun
  | [d1, d2] => { results := [.lit (.bool false)], args := [d1, d2] }
  | _ => none }
def FnExactIsCycleWrongFalsely : Prop := fnExactIsCycleRow.holds Try.pinned (OpenSpec.ofChange fnExactIsCycleWrong)

/-- 'laws.FnExactWindowAt': WHATEVER THE INPUT: true; the input reads as it did. -/
def fnExactWindowAtSpec : ChangeSpec := { name := "fnExactWindowAt", fn := fun _ => fun
  | [d1, d2, d3] => { results := [.lit (.bool true)], args := [d1, d2, d3] }
  | _ => none }
def fnExactWindowAtRow : OpenClaim := { program := "ytaajfpjekfmddaa", sum := "e749eacdad9eaccec32667355b443eaf12c8b63dc64442b054bce105f6e293d1", func := "loop.example/g01104/laws.FnExactWindowAt", spec := "fnExactWindowAt", apart := false }
def FnExactWindowAtSaid : Prop := fnExactWindowAtRow.holds Try.pinned (OpenSpec.ofChange fnExactWindowAtSpec)

/-- ITS FALSE NEIGHBOUR: 'it returns false'. Refute it at one input. -/
def fnExactWindowAtWrong : ChangeSpec := { name := "fnExactWindowAt", fn := fun _ => fun
  | [d1, d2, d3] => { results := [.lit (.bool false)], args := [d1, d2, d3] }
  | _ => none }
def FnExactWindowAtWrongFalsely : Prop := fnExactWindowAtRow.holds Try.pinned (OpenSpec.ofChange fnExactWindowAtWrong)

/-- 'laws.FnExactPlacesOf': WHATEVER THE INPUT: true; the input reads as it did. -/
def fnExactPlacesOfSpec : ChangeSpec := { name := "fnExactPlacesOf", fn := fun _ => fun
  | [d1, d2] => { results := [.lit (.bool true)], args := [d1, d2] }
  | _ => none }
def fnExactPlacesOfRow : OpenClaim := { program := "ytaajfpjekfmddaa", sum := "e749eacdad9eaccec32667355b443eaf12c8b63dc64442b054bce105f6e293d1", func := "loop.example/g01104/laws.FnExactPlacesOf", spec := "fnExactPlacesOf", apart := false }
def FnExactPlacesOfSaid : Prop := fnExactPlacesOfRow.holds Try.pinned (OpenSpec.ofChange fnExactPlacesOfSpec)

/-- ITS FALSE NEIGHBOUR: 'it returns false'. Refute it at one input. -/
def fnExactPlacesOfWrong : ChangeSpec := { name := "fnExactPlacesOf", fn := fun _ => fun
  | [d1, d2] => { results := [.lit (.bool false)], args := [d1, d2] }
  | _ => none }
def FnExactPlacesOfWrongFalsely : Prop := fnExactPlacesOfRow.holds Try.pinned (OpenSpec.ofChange fnExactPlacesOfWrong)

/-- 'laws.FnExactIsBruijn': WHATEVER THE INPUT: true; the input reads as it did. -/
def fnExactIsBruijnSpec : ChangeSpec := { name := "fnExactIsBruijn", fn := fun _ => fun
  | [d1, d2, d3] => { results := [.lit (.bool true)], args := [d1, d2, d3] }
  | _ => none }
def fnExactIsBruijnRow : OpenClaim := { program := "ytaajfpjekfmddaa", sum := "e749eacdad9eaccec32667355b443eaf12c8b63dc64442b054bce105f6e293d1", func := "loop.example/g01104/laws.FnExactIsBruijn", spec := "fnExactIsBruijn", unfollowed := true, recurses := true, apart := false }
def FnExactIsBruijnSaid : Prop := fnExactIsBruijnRow.holds Try.pinned (OpenSpec.ofChange fnExactIsBruijnSpec)

/-- ITS FALSE NEIGHBOUR: 'it returns false'. Refute it at one input. -/
def fnExactIsBruijnWrong : ChangeSpec := { name := "fnExactIsBruijn", fn := fun _ => fun
  | [d1, d2, d3] => { results := [.lit (.bool false)], args := [d1, d2, d3] }
  | _ => none }
def FnExactIsBruijnWrongFalsely : Prop := fnExactIsBruijnRow.holds Try.pinned (OpenSpec.ofChange fnExactIsBruijnWrong)

/-- 'laws.FnExactLeastBruijn': WHATEVER THE INPUT: true; the input reads as it did. -/
def fnExactLeastBruijnSpec : ChangeSpec := { name := "fnExactLeastBruijn", fn := fun _ => fun
  | [d1, d2] => { results := [.lit (.bool true)], args := [d1, d2] }
  | _ => none }
def fnExactLeastBruijnRow : OpenClaim := { program := "ytaajfpjekfmddaa", sum := "e749eacdad9eaccec32667355b443eaf12c8b63dc64442b054bce105f6e293d1", func := "loop.example/g01104/laws.FnExactLeastBruijn", spec := "fnExactLeastBruijn", unfollowed := true, recurses := true, apart := false }
def FnExactLeastBruijnSaid : Prop := fnExactLeastBruijnRow.holds Try.pinned (OpenSpec.ofChange fnExactLeastBruijnSpec)

/-- ITS FALSE NEIGHBOUR: 'it returns false'. Refute it at one input. -/
def fnExactLeastBruijnWrong : ChangeSpec := { name := "fnExactLeastBruijn", fn := fun _ => fun
  | [d1, d2] => { results := [.lit (.bool false)], args := [d1, d2] }
  | _ => none }
def FnExactLeastBruijnWrongFalsely : Prop := fnExactLeastBruijnRow.holds Try.pinned (OpenSpec.ofChange fnExactLeastBruijnWrong)

/-- 'laws.FnExactGreedyBruijn': WHATEVER THE INPUT: true; the input reads as it did. -/
def fnExactGreedyBruijnSpec : ChangeSpec := { name := "fnExactGreedyBruijn", fn := fun _ => fun
  | [d1, d2] => { results := [.lit (.bool true)], args := [d1, d2] }
  | _ => none }
def fnExactGreedyBruijnRow : OpenClaim := { program := "ytaajfpjekfmddaa", sum := "e749eacdad9eaccec32667355b443eaf12c8b63dc64442b054bce105f6e293d1", func := "loop.example/g01104/laws.FnExactGreedyBruijn", spec := "fnExactGreedyBruijn", apart := false }
def FnExactGreedyBruijnSaid : Prop := fnExactGreedyBruijnRow.holds Try.pinned (OpenSpec.ofChange fnExactGreedyBruijnSpec)

/-- ITS FALSE NEIGHBOUR: 'it returns false'. Refute it at one input. -/
def fnExactGreedyBruijnWrong : ChangeSpec := { name := "fnExactGreedyBruijn", fn := fun _ => fun
  | [d1, d2] => { results := [.lit (.bool false)], args := [d1, d2] }
  | _ => none }
def FnExactGreedyBruijnWrongFalsely : Prop := fnExactGreedyBruijnRow.holds Try.pinned (OpenSpec.ofChange fnExactGreedyBruijnWrong)

/- THE SECOND FORM. 'bulk': how many values and letters a reading holds, each counted each time it is reached (what is shared counts as often as it is met; a slice's spare places count too). A statement '..UptoSaid' is the law's where the arguments, and the package variables that the reading takes, are together of bulk at most 1048576: NARROWER than '..Said'. Prove '..Said' where nothing that the law and all that it calls make is longer than what came in: it says more and counts as full. Else prove '..UptoSaid'. A law counts once. -/
mutual
def uptoBulk {H : Type} : DataW H → Nat
  | .lit (.string bytes) => bytes.length + 1
  | .lit _ => 1
  | .nil => 1
  | .ptr d => uptoBulk d + 1
  | .slice elems spare => uptoBulkAll elems + uptoBulkAll spare + 1
  | .agg parts => uptoBulkAll parts + 1
  | .iface _ d => uptoBulk d + 1
  | .map entries => uptoBulkEntries entries + 1
  | .held _ => 1
def uptoBulkAll {H : Type} : List (DataW H) → Nat
  | [] => 0
  | d :: r => uptoBulk d + uptoBulkAll r
def uptoBulkEntries {H : Type} : List (Lit × DataW H) → Nat
  | [] => 0
  | x :: r => uptoBulkEntry x + uptoBulkEntries r
def uptoBulkEntry {H : Type} : Lit × DataW H → Nat
  | (.string bytes, d) => bytes.length + uptoBulk d + 1
  | (_, d) => uptoBulk d + 1
 end
def uptoSmall : (H : Type) → List (DataW H) → Bool := fun _ ds => decide (uptoBulkAll ds ≤ 1048576)
def OpenSpec.upto (s : _root_.Go.ChangeSpec) : _root_.Go.OpenSpec := { _root_.Go.OpenSpec.ofChange s with cond := some uptoSmall }

/-- 'laws.FnExactBracketText', WHERE WHAT IT READS IS OF BULK AT MOST 1048576: true; the input reads as it did. -/
def fnExactBracketTextUptoRow : OpenClaim := { program := "ytaajfpjekfmddaa", sum := "e749eacdad9eaccec32667355b443eaf12c8b63dc64442b054bce105f6e293d1", func := "loop.example/g01104/laws.FnExactBracketText", spec := "fnExactBracketText", recurses := true, apart := false, narrowed := true }
def FnExactBracketTextUptoSaid : Prop := fnExactBracketTextUptoRow.holds Try.pinned (OpenSpec.upto fnExactBracketTextSpec)

/-- 'laws.FnExactNecklacesOf', WHERE WHAT IT READS IS OF BULK AT MOST 1048576: true; the input reads as it did. -/
def fnExactNecklacesOfUptoRow : OpenClaim := { program := "ytaajfpjekfmddaa", sum := "e749eacdad9eaccec32667355b443eaf12c8b63dc64442b054bce105f6e293d1", func := "loop.example/g01104/laws.FnExactNecklacesOf", spec := "fnExactNecklacesOf", unfollowed := true, recurses := true, apart := false, narrowed := true }
def FnExactNecklacesOfUptoSaid : Prop := fnExactNecklacesOfUptoRow.holds Try.pinned (OpenSpec.upto fnExactNecklacesOfSpec)

/-- 'laws.FnExactWordText', WHERE WHAT IT READS IS OF BULK AT MOST 1048576: true; the input reads as it did. -/
def fnExactWordTextUptoRow : OpenClaim := { program := "ytaajfpjekfmddaa", sum := "e749eacdad9eaccec32667355b443eaf12c8b63dc64442b054bce105f6e293d1", func := "loop.example/g01104/laws.FnExactWordText", spec := "fnExactWordText", apart := false, narrowed := true }
def FnExactWordTextUptoSaid : Prop := fnExactWordTextUptoRow.holds Try.pinned (OpenSpec.upto fnExactWordTextSpec)

/-- 'laws.FnExactParseWord', WHERE WHAT IT READS IS OF BULK AT MOST 1048576: true; the input reads as it did. -/
def fnExactParseWordUptoRow : OpenClaim := { program := "ytaajfpjekfmddaa", sum := "e749eacdad9eaccec32667355b443eaf12c8b63dc64442b054bce105f6e293d1", func := "loop.example/g01104/laws.FnExactParseWord", spec := "fnExactParseWord", apart := false, narrowed := true }
def FnExactParseWordUptoSaid : Prop := fnExactParseWordUptoRow.holds Try.pinned (OpenSpec.upto fnExactParseWordSpec)

/-- 'laws.FnExactIsCycle', WHERE WHAT IT READS IS OF BULK AT MOST 1048576: true; the input reads as it did. -/
def fnExactIsCycleUptoRow : OpenClaim := { program := "ytaajfpjekfmddaa", sum := "e749eacdad9eaccec32667355b443eaf12c8b63dc64442b054bce105f6e293d1", func := "loop.example/g01104/laws.FnExactIsCycle", spec := "fnExactIsCycle", apart := false, narrowed := true }
def FnExactIsCycleUptoSaid : Prop := fnExactIsCycleUptoRow.holds Try.pinned (OpenSpec.upto fnExactIsCycleSpec)

/-- 'laws.FnExactWindowAt', WHERE WHAT IT READS IS OF BULK AT MOST 1048576: true; the input reads as it did. -/
def fnExactWindowAtUptoRow : OpenClaim := { program := "ytaajfpjekfmddaa", sum := "e749eacdad9eaccec32667355b443eaf12c8b63dc64442b054bce105f6e293d1", func := "loop.example/g01104/laws.FnExactWindowAt", spec := "fnExactWindowAt", apart := false, narrowed := true }
def FnExactWindowAtUptoSaid : Prop := fnExactWindowAtUptoRow.holds Try.pinned (OpenSpec.upto fnExactWindowAtSpec)

/-- 'laws.FnExactPlacesOf', WHERE WHAT IT READS IS OF BULK AT MOST 1048576: true; the input reads as it did. -/
def fnExactPlacesOfUptoRow : OpenClaim := { program := "ytaajfpjekfmddaa", sum := "e749eacdad9eaccec32667355b443eaf12c8b63dc64442b054bce105f6e293d1", func := "loop.example/g01104/laws.FnExactPlacesOf", spec := "fnExactPlacesOf", apart := false, narrowed := true }
def FnExactPlacesOfUptoSaid : Prop := fnExactPlacesOfUptoRow.holds Try.pinned (OpenSpec.upto fnExactPlacesOfSpec)

/-- 'laws.FnExactIsBruijn', WHERE WHAT IT READS IS OF BULK AT MOST 1048576: true; the input reads as it did. -/
def fnExactIsBruijnUptoRow : OpenClaim := { program := "ytaajfpjekfmddaa", sum := "e749eacdad9eaccec32667355b443eaf12c8b63dc64442b054bce105f6e293d1", func := "loop.example/g01104/laws.FnExactIsBruijn", spec := "fnExactIsBruijn", unfollowed := true, recurses := true, apart := false, narrowed := true }
def FnExactIsBruijnUptoSaid : Prop := fnExactIsBruijnUptoRow.holds Try.pinned (OpenSpec.upto fnExactIsBruijnSpec)

/-- 'laws.FnExactLeastBruijn', WHERE WHAT IT READS IS OF BULK AT MOST 1048576: true; the input reads as it did. -/
def fnExactLeastBruijnUptoRow : OpenClaim := { program := "ytaajfpjekfmddaa", sum := "e749eacdad9eaccec32667355b443eaf12c8b63dc64442b054bce105f6e293d1", func := "loop.example/g01104/laws.FnExactLeastBruijn", spec := "fnExactLeastBruijn", unfollowed := true, recurses := true, apart := false, narrowed := true }
def FnExactLeastBruijnUptoSaid : Prop := fnExactLeastBruijnUptoRow.holds Try.pinned (OpenSpec.upto fnExactLeastBruijnSpec)

/-- 'laws.FnExactGreedyBruijn', WHERE WHAT IT READS IS OF BULK AT MOST 1048576: true; the input reads as it did. -/
def fnExactGreedyBruijnUptoRow : OpenClaim := { program := "ytaajfpjekfmddaa", sum := "e749eacdad9eaccec32667355b443eaf12c8b63dc64442b054bce105f6e293d1", func := "loop.example/g01104/laws.FnExactGreedyBruijn", spec := "fnExactGreedyBruijn", apart := false, narrowed := true }
def FnExactGreedyBruijnUptoSaid : Prop := fnExactGreedyBruijnUptoRow.holds Try.pinned (OpenSpec.upto fnExactGreedyBruijnSpec)

end Rows
end Go.Proofs.Ytaajfpjekfmddaa
