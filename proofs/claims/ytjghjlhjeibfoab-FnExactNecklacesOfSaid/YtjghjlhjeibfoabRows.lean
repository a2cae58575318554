/-
  No cell of these rows narrows 'for every input' (looked for: loops, veiled, ifaces, maps, wideKeys, modest, calm, conditions, laid).
  DERIVED. THE GIVEN ROWS OF THIS SEAT. 9 by the template 'for every input the law returns true; each argument reads behind the call as it read before'; 0 by the template 'total and deterministic' (their statements: YtjghjlhjeibfoabTotals.lean).
  GIVEN WITH THE SEED: the statements are not yours to turn. If you find one false, say at which input.
  Laid BY PROGRAM, IN A SANDBOX (cutbox-rows.mjs): the forced cells as the released guide's own fill.sh prints them over the translation 8a53d763527e98b4… (all of the seat's roots in one cut). By AI agents, Wed Nov 11 2026. No macro, syntax, notation, axiom, sorry.
-/
import Derived.Test.YtjghjlhjeibfoabChecked
import GoSem.Claim
import GoSem.ClaimJoined
import GoSem.ClaimMapViews
import Derived.JoinedTies
import Derived.KernelRfl
namespace Go.Proofs.Ytjghjlhjeibfoab
/- THE CELL 'sum', in the pinned program and in every row, IS THE sha256 OF THE DUMP (.gsa) THAT YtjghjlhjeibfoabProg.lean LOADS. Nothing in Lean hashes anything: it is a label: what it is worth is what the hold of that sum in a sandbox is worth. -/
noncomputable def Try.pinned : Pinned := { name := "ytjghjlhjeibfoab", sum := "8a53d763527e98b43ba206f2566d835584049f0aca3d9d8cc8b241d1547ef83b", checked := Try.checked }
namespace Rows
def none {H : Type} : Left H := { results := [], args := [] }

/-- 'laws.FnExactBracketText': WHATEVER THE INPUT: true; the input reads as it did. -/
def fnExactBracketTextSpec : ChangeSpec := { name := "fnExactBracketText", fn := fun _ => fun
  | [d] => { results := [.lit (.bool true)], args := [d] }
  | _ => none }
def fnExactBracketTextRow : OpenClaim := { program := "ytjghjlhjeibfoab", sum := "8a53d763527e98b43ba206f2566d835584049f0aca3d9d8cc8b241d1547ef83b", func := "loop.example/g01104/laws.FnExactBracketText", spec := "fnExactBracketText", recurses := true, apart := false }
def FnExactBracketTextSaid : Prop := fnExactBracketTextRow.holds Try.pinned (OpenSpec.ofChange fnExactBracketTextSpec)

/-- ITS FALSE NEIGHBOUR: 'it returns false'. Refute it at one input. -/
def fnExactBracketTextWrong : ChangeSpec := { name := "fnExactBracketText", fn := fun _ => fun
  | [d] => { results := [.lit (.bool false)], args := [d] }
  | _ => none }
def FnExactBracketTextWrongFalsely : Prop := fnExactBracketTextRow.holds Try.pinned (OpenSpec.ofChange fnExactBracketTextWrong)

/-- 'laws.FnExactNextLyndon': WHATEVER THE INPUT: true; the input reads as it did. -/
def fnExactNextLyndonSpec : ChangeSpec := { name := "fnExactNextLyndon", fn := fun _ => fun
  | [d1, d2, d3] => { results := [.lit (.bool true)], args := [d1, d2, d3] }
  | _ => none }
def fnExactNextLyndonRow : OpenClaim := { program := "ytjghjlhjeibfoab", sum := "8a53d763527e98b43ba206f2566d835584049f0aca3d9d8cc8b241d1547ef83b", func := "loop.example/g01104/laws.FnExactNextLyndon", spec := "fnExactNextLyndon", unfollowed := true, recurses := true, apart := false }
def FnExactNextLyndonSaid : Prop := fnExactNextLyndonRow.holds Try.pinned (OpenSpec.ofChange fnExactNextLyndonSpec)

/-- ITS FALSE NEIGHBOUR: 'it returns false'. Refute it at one input. -/
def fnExactNextLyndonWrong : ChangeSpec := { name := "fnExactNextLyndon", fn := fun _ => fun
  | [d1, d2, d3] => { results := [.lit (.bool false)], args := [d1, d2, d3] }
  | _ => none }
def FnExactNextLyndonWrongFalsely : Prop := fnExactNextLyndonRow.holds Try.pinned (OpenSpec.ofChange fnExactNextLyndonWrong)

/-- 'laws.FnExactLyndonUpTo': WHATEVER THE INPUT: true; the input reads as it did. -/
def fnExactLyndonUpToSpec : ChangeSpec := { name := "fnExactLyndonUpTo", fn := fun _ => fun
  | [d1, d2] => { results := [.lit (.bool true)], args := [d1, d2] }
  | _ => none }
def fnExactLyndonUpToRow : OpenClaim := { program := "ytjghjlhjeibfoab", sum := "8a53d763527e98b43ba206f2566d835584049f0aca3d9d8cc8b241d1547ef83b", func := "loop.example/g01104/laws.FnExactLyndonUpTo", spec := "fnExactLyndonUpTo", unfollowed := true, recurses := true, apart := false }
def FnExactLyndonUpToSaid : Prop := fnExactLyndonUpToRow.holds Try.pinned (OpenSpec.ofChange fnExactLyndonUpToSpec)

/-- ITS FALSE NEIGHBOUR: 'it returns false'. Refute it at one input. -/
def fnExactLyndonUpToWrong : ChangeSpec := { name := "fnExactLyndonUpTo", fn := fun _ => fun
  | [d1, d2] => { results := [.lit (.bool false)], args := [d1, d2] }
  | _ => none }
def FnExactLyndonUpToWrongFalsely : Prop := fnExactLyndonUpToRow.holds Try.pinned (OpenSpec.ofChange fnExactLyndonUpToWrong)

/-- 'laws.FnExactNecklacesOf': WHATEVER THE INPUT: true; the input reads as it did. -/
def fnExactNecklacesOfSpec : ChangeSpec := { name := "fnExactNecklacesOf", fn := fun _ => fun
  | [d1, d2] => { results := [.lit (.bool true)], args := [d1, d2] }
  | _ => none }
def fnExactNecklacesOfRow : OpenClaim := { program := "ytjghjlhjeibfoab", sum := "8a53d763527e98b43ba206f2566d835584049f0aca3d9d8cc8b241d1547ef83b", func := "loop.example/g01104/laws.FnExactNecklacesOf", spec := "fnExactNecklacesOf", unfollowed := true, recurses := true, apart := false }
def FnExactNecklacesOfSaid : Prop := fnExactNecklacesOfRow.holds Try.pinned (OpenSpec.ofChange fnExactNecklacesOfSpec)

/-- ITS FALSE NEIGHBOUR: 'it returns false'. Refute it at one input. -/
def fnExactNecklacesOfWrong : ChangeSpec := { name := "fnExactNecklacesOf", fn := fun _ => fun
  | [d1, d2] => { results := [.lit (.bool false)], args := [d1, d2] }
  | _ => none }
def FnExactNecklacesOfWrongFalsely : Prop := fnExactNecklacesOfRow.holds Try.pinned (OpenSpec.ofChange fnExactNecklacesOfWrong)

/-- 'laws.FnExactCountLyndon': WHATEVER THE INPUT: true; the input reads as it did. -/
def fnExactCountLyndonSpec : ChangeSpec := { name := "fnExactCountLyndon", fn := fun _ => fun
  | [d1, d2] => { results := [.lit (.bool true)], args := [d1, d2] }
  | _ => none }
def fnExactCountLyndonRow : OpenClaim := { program := "ytjghjlhjeibfoab", sum := "8a53d763527e98b43ba206f2566d835584049f0aca3d9d8cc8b241d1547ef83b", func := "loop.example/g01104/laws.FnExactCountLyndon", spec := "fnExactCountLyndon", recurses := true, apart := false }
def FnExactCountLyndonSaid : Prop := fnExactCountLyndonRow.holds Try.pinned (OpenSpec.ofChange fnExactCountLyndonSpec)

/-- ITS FALSE NEIGHBOUR: 'it returns false'. Refute it at one input. -/
def fnExactCountLyndonWrong : ChangeSpec := { name := "fnExactCountLyndon", fn := fun _ => fun
  | [d1, d2] => { results := [.lit (.bool false)], args := [d1, d2] }
  | _ => none }
def FnExactCountLyndonWrongFalsely : Prop := fnExactCountLyndonRow.holds Try.pinned (OpenSpec.ofChange fnExactCountLyndonWrong)

/-- 'laws.FnExactCountNecklaces': WHATEVER THE INPUT: true; the input reads as it did. -/
def fnExactCountNecklacesSpec : ChangeSpec := { name := "fnExactCountNecklaces", fn := fun _ => fun
  | [d1, d2] => { results := [.lit (.bool true)], args := [d1, d2] }
  | _ => none }
def fnExactCountNecklacesRow : OpenClaim := { program := "ytjghjlhjeibfoab", sum := "8a53d763527e98b43ba206f2566d835584049f0aca3d9d8cc8b241d1547ef83b", func := "loop.example/g01104/laws.FnExactCountNecklaces", spec := "fnExactCountNecklaces", recurses := true, apart := false }
def FnExactCountNecklacesSaid : Prop := fnExactCountNecklacesRow.holds Try.pinned (OpenSpec.ofChange fnExactCountNecklacesSpec)

/-- ITS FALSE NEIGHBOUR: 'it returns false'. Refute it at one input. -/
def fnExactCountNecklacesWrong : ChangeSpec := { name := "fnExactCountNecklaces", fn := fun _ => fun
  | [d1, d2] => { results := [.lit (.bool false)], args := [d1, d2] }
  | _ => none }
def FnExactCountNecklacesWrongFalsely : Prop := fnExactCountNecklacesRow.holds Try.pinned (OpenSpec.ofChange fnExactCountNecklacesWrong)

/-- 'laws.FnExactCountBracelets': WHATEVER THE INPUT: true; the input reads as it did. -/
def fnExactCountBraceletsSpec : ChangeSpec := { name := "fnExactCountBracelets", fn := fun _ => fun
  | [d1, d2] => { results := [.lit (.bool true)], args := [d1, d2] }
  | _ => none }
def fnExactCountBraceletsRow : OpenClaim := { program := "ytjghjlhjeibfoab", sum := "8a53d763527e98b43ba206f2566d835584049f0aca3d9d8cc8b241d1547ef83b", func := "loop.example/g01104/laws.FnExactCountBracelets", spec := "fnExactCountBracelets", recurses := true, apart := false }
def FnExactCountBraceletsSaid : Prop := fnExactCountBraceletsRow.holds Try.pinned (OpenSpec.ofChange fnExactCountBraceletsSpec)

/-- ITS FALSE NEIGHBOUR: 'it returns false'. Refute it at one input. -/
def fnExactCountBraceletsWrong : ChangeSpec := { name := "fnExactCountBracelets", fn := fun _ => fun
  | [d1, d2] => { results := [.lit (.bool false)], args := [d1, d2] }
  | _ => none }
def FnExactCountBraceletsWrongFalsely : Prop := fnExactCountBraceletsRow.holds Try.pinned (OpenSpec.ofChange fnExactCountBraceletsWrong)

/-- 'laws.FnExactWordText': WHATEVER THE INPUT: true; the input reads as it did. -/
def fnExactWordTextSpec : ChangeSpec := { name := "fnExactWordText", fn := fun _ => fun
  | [d] => { results := [.lit (.bool true)], args := [d] }
  | _ => none }
def fnExactWordTextRow : OpenClaim := { program := "ytjghjlhjeibfoab", sum := "8a53d763527e98b43ba206f2566d835584049f0aca3d9d8cc8b241d1547ef83b", func := "loop.example/g01104/laws.FnExactWordText", spec := "fnExactWordText", apart := false }
def FnExactWordTextSaid : Prop := fnExactWordTextRow.holds Try.pinned (OpenSpec.ofChange fnExactWordTextSpec)

/-- ITS FALSE NEIGHBOUR: 'it returns false'. Refute it at one input. -/
def fnExactWordTextWrong : ChangeSpec := { name := "fnExactWordText", fn := fun _ => fun
  | [d] => { results := [.lit (.bool false)], args := [d] }
  | _ => none }
def FnExactWordTextWrongFalsely : Prop := fnExactWordTextRow.holds Try.pinned (OpenSpec.ofChange fnExactWordTextWrong)

/-- 'laws.FnExactParseWord': WHATEVER THE INPUT: true; the input reads as it did. -/
def fnExactParseWordSpec : ChangeSpec := { name := "fnExactParseWord", fn := fun _ => fun
  | [d] => { results := [.lit (.bool true)], args := [d] }
  | _ => none }
def fnExactParseWordRow : OpenClaim := { program := "ytjghjlhjeibfoab", sum := "8a53d763527e98b43ba206f2566d835584049f0aca3d9d8cc8b241d1547ef83b", func := "loop.example/g01104/laws.FnExactParseWord", spec := "fnExactParseWord", apart := false }
def FnExactParseWordSaid : Prop := fnExactParseWordRow.holds Try.pinned (OpenSpec.ofChange fnExactParseWordSpec)

/-- ITS FALSE NEIGHBOUR: 'it returns false'. Refute it at one input. -/
def fnExactParseWordWrong : ChangeSpec := { name := "fnExactParseWord", fn := fun _ => fun
  | [d] => { results := [.lit (.bool false)], args := [d] }
  | _ => none }
def FnExactParseWordWrongFalsely : Prop := fnExactParseWordRow.holds Try.pinned (OpenSpec.ofChange fnExactParseWordWrong)

/- THE SECOND FORM. 'bulk': how many values and letters a reading holds, each counted each time it is reached (what is shared counts as often as it is met; a slice's spare places count too). A statement '..UptoSaid' is the law's where the arguments, and the package variables that the reading takes, are together of bulk at most 1048576: NARROWER than '..Said'. Prove '..Said' where nothing that the law and all that it calls make is longer than what came in: it says more and counts as full. Else prove '..UptoSaid'. A law counts once. -/
mutual
def uptoBulk {H : Type} : DataW H → Nat
  | .lit (.string bytes) => bytes.length + 1
  | .lit _ => 1
  | .nil => 1
  | .ptr d => uptoBulk d + 1
  | .slice elems spare => uptoBulkAll elems + uptoBulkAll spare + 1
  | .agg parts => uptoBulkAll parts + 1
  | .iface _ d => uptoBulk d + 1
  | .map entries => uptoBulkEntries entries + 1
  | .held _ => 1
def uptoBulkAll {H : Type} : List (DataW H) → Nat
  | [] => 0
  | d :: r => uptoBulk d + uptoBulkAll r
def uptoBulkEntries {H : Type} : List (Lit × DataW H) → Nat
  | [] => 0
  | x :: r => uptoBulkEntry x + uptoBulkEntries r
def uptoBulkEntry {H : Type} : Lit × DataW H → Nat
  | (.string bytes, d) => bytes.length + uptoBulk d + 1
  | (_, d) => uptoBulk d + 1
 end
def uptoSmall : (H : Type) → List (DataW H) → Bool := fun _ ds => decide (uptoBulkAll ds ≤ 1048576)
def OpenSpec.upto (s : _root_.Go.ChangeSpec) : _root_.Go.OpenSpec := { _root_.Go.OpenSpec.ofChange s with cond := some uptoSmall }

/-- 'laws.FnExactBracketText', WHERE WHAT IT READS IS OF BULK AT MOST 1048576: true; the input reads as it did. -/
def fnExactBracketTextUptoRow : OpenClaim := { program := "ytjghjlhjeibfoab", sum := "8a53d763527e98b43ba206f2566d835584049f0aca3d9d8cc8b241d1547ef83b", func := "loop.example/g01104/laws.FnExactBracketText", spec := "fnExactBracketText", recurses := true, apart := false, narrowed := true }
def FnExactBracketTextUptoSaid : Prop := fnExactBracketTextUptoRow.holds Try.pinned (OpenSpec.upto fnExactBracketTextSpec)

/-- 'laws.FnExactNextLyndon', WHERE WHAT IT READS IS OF BULK AT MOST 1048576: true; the input reads as it did. -/
def fnExactNextLyndonUptoRow : OpenClaim := { program := "ytjghjlhjeibfoab", sum := "8a53d763527e98b43ba206f2566d835584049f0aca3d9d8cc8b241d1547ef83b", func := "loop.example/g01104/laws.FnExactNextLyndon", spec := "fnExactNextLyndon", unfollowed := true, recurses := true, apart := false, narrowed := true }
def FnExactNextLyndonUptoSaid : Prop := fnExactNextLyndonUptoRow.holds Try.pinned (OpenSpec.upto fnExactNextLyndonSpec)

/-- 'laws.FnExactLyndonUpTo', WHERE WHAT IT READS IS OF BULK AT MOST 1048576: true; the input reads as it did. -/
def fnExactLyndonUpToUptoRow : OpenClaim := { program := "ytjghjlhjeibfoab", sum := "8a53d763527e98b43ba206f2566d835584049f0aca3d9d8cc8b241d1547ef83b", func := "loop.example/g01104/laws.FnExactLyndonUpTo", spec := "fnExactLyndonUpTo", unfollowed := true, recurses := true, apart := false, narrowed := true }
def FnExactLyndonUpToUptoSaid : Prop := fnExactLyndonUpToUptoRow.holds Try.pinned (OpenSpec.upto fnExactLyndonUpToSpec)

/-- 'laws.FnExactNecklacesOf', WHERE WHAT IT READS IS OF BULK AT MOST 1048576: true; the input reads as it did. -/
def fnExactNecklacesOfUptoRow : OpenClaim := { program := "ytjghjlhjeibfoab", sum := "8a53d763527e98b43ba206f2566d835584049f0aca3d9d8cc8b241d1547ef83b", func := "loop.example/g01104/laws.FnExactNecklacesOf", spec := "fnExactNecklacesOf", unfollowed := true, recurses := true, apart := false, narrowed := true }
def FnExactNecklacesOfUptoSaid : Prop := fnExactNecklacesOfUptoRow.holds Try.pinned (OpenSpec.upto fnExactNecklacesOfSpec)

/-- 'laws.FnExactCountLyndon', WHERE WHAT IT READS IS OF BULK AT MOST 1048576: true; the input reads as it did. -/
def fnExactCountLyndonUptoRow : OpenClaim := { program := "ytjghjlhjeibfoab", sum := "8a53d763527e98b43ba206f2566d835584049f0aca3d9d8cc8b241d1547ef83b", func := "loop.example/g01104/laws.FnExactCountLyndon", spec := "fnExactCountLyndon", recurses := true, apart := false, narrowed := true }
def FnExactCountLyndonUptoSaid : Prop := fnExactCountLyndonUptoRow.holds Try.pinned (OpenSpec.upto fnExactCountLyndonSpec)

/-- 'laws.FnExactCountNecklaces', WHERE WHAT IT READS IS OF BULK AT MOST 1048576: true; the input reads as it did. -/
def fnExactCountNecklacesUptoRow : OpenClaim := { program := "ytjghjlhjeibfoab", sum := "8a53d763527e98b43ba206f2566d835584049f0aca3d9d8cc8b241d1547ef83b", func := "loop.example/g01104/laws.FnExactCountNecklaces", spec := "fnExactCountNecklaces", recurses := true, apart := false, narrowed := true }
def FnExactCountNecklacesUptoSaid : Prop := fnExactCountNecklacesUptoRow.holds Try.pinned (OpenSpec.upto fnExactCountNecklacesSpec)

/-- 'laws.FnExactCountBracelets', WHERE WHAT IT READS IS OF BULK AT MOST 1048576: true; the input reads as it did. -/
def fnExactCountBraceletsUptoRow : OpenClaim := { program := "ytjghjlhjeibfoab", sum := "8a53d763527e98b43ba206f2566d835584049f0aca3d9d8cc8b241d1547ef83b", func := "loop.example/g01104/laws.FnExactCountBracelets", spec := "fnExactCountBracelets", recurses := true, apart := false, narrowed := true }
def FnExactCountBraceletsUptoSaid : Prop := fnExactCountBraceletsUptoRow.holds Try.pinned (OpenSpec.upto fnExactCountBraceletsSpec)

/-- 'laws.FnExactWordText', WHERE WHAT IT READS IS OF BULK AT MOST 1048576: true; the input reads as it did. -/
def fnExactWordTextUptoRow : OpenClaim := { program := "ytjghjlhjeibfoab", sum := "8a53d763527e98b43ba206f2566d835584049f0aca3d9d8cc8b241d1547ef83b", func := "loop.example/g01104/laws.FnExactWordText", spec := "fnExactWordText", apart := false, narrowed := true }
def FnExactWordTextUptoSaid : Prop := fnExactWordTextUptoRow.holds Try.pinned (OpenSpec.upto fnExactWordTextSpec)

/-- 'laws.FnExactParseWord', WHERE WHAT IT READS IS OF BULK AT MOST 1048576: true; the input reads as it did. -/
def fnExactParseWordUptoRow : OpenClaim := { program := "ytjghjlhjeibfoab", sum := "8a53d763527e98b43ba206f2566d835584049f0aca3d9d8cc8b241d1547ef83b", func := "loop.example/g01104/laws.FnExactParseWord", spec := "fnExactParseWord", apart := false, narrowed := true }
def FnExactParseWordUptoSaid : Prop := fnExactParseWordUptoRow.holds Try.pinned (OpenSpec.upto fnExactParseWordSpec)

end Rows
end Go.Proofs.Ytjghjlhjeibfoab
