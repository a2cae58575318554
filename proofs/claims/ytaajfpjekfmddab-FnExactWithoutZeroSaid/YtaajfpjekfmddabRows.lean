/-
  No cell of these rows narrows 'for every input' (looked for: loops, veiled, ifaces, maps, wideKeys, modest, calm, conditions, laid).
  DERIVED. THE GIVEN ROWS OF THIS SEAT. 10 by the template 'for every input the law returns true; each argument reads behind the call as it read before'; 0 by the template 'total and deterministic' (their statements: YtaajfpjekfmddabTotals.lean).
  GIVEN WITH THE SEED: the statements are not yours to turn. If you find one false, say at which input.
  Laid BY PROGRAM, IN A SANDBOX (cutbox-rows.mjs): the forced cells as the released guide's own fill.sh prints them over the translation 9b947591e2031b95… (all of the seat's roots in one cut). By AI agents, Wed Nov 11 2026. No macro, syntax, notation, axiom, sorry.
-/
import Derived.Test.YtaajfpjekfmddabChecked
import GoSem.Claim
import GoSem.ClaimJoined
import GoSem.ClaimMapViews
import Derived.JoinedTies
import Derived.KernelRfl
namespace Go.Proofs.Ytaajfpjekfmddab
/- THE CELL 'sum', in the pinned program and in every row, IS THE sha256 OF THE DUMP (.gsa) THAT YtaajfpjekfmddabProg.lean LOADS. Nothing in Lean hashes anything: it is a label: what it is worth is what the hold of that sum in a sandbox is worth. -/
noncomputable def Try.pinned : Pinned := { name := "ytaajfpjekfmddab", sum := "9b947591e2031b955d7814eefd7b4427ab33e7a8ce8cecc2011fdf8e9e5a57c5", checked := Try.checked }
namespace Rows
def none {H : Type} : Left H := { results := [], args := [] }

/-- 'laws.FnExactEulerBruijn': WHATEVER THE INPUT: true; the input reads as it did. -/
def fnExactEulerBruijnSpec : ChangeSpec := { name := "fnExactEulerBruijn", fn := fun _ => fun
  | [d1, d2] => { results := [.lit (.bool true)], args := [d1, d2] }
  | _ => none }
def fnExactEulerBruijnRow : OpenClaim := { program := "ytaajfpjekfmddab", sum := "9b947591e2031b955d7814eefd7b4427ab33e7a8ce8cecc2011fdf8e9e5a57c5", func := "loop.example/g01104/laws.FnExactEulerBruijn", spec := "fnExactEulerBruijn", unfollowed := true, recurses := true, apart := false }
def FnExactEulerBruijnSaid : Prop := fnExactEulerBruijnRow.holds Try.pinned (OpenSpec.ofChange fnExactEulerBruijnSpec)

/-- ITS FALSE NEIGHBOUR: 'it returns false'. Refute it at one input. -/
def fnExactEulerBruijnWrong : ChangeSpec := { name := "fnExactEulerBruijn", fn := fun _ => fun
  | [d1, d2] => { results := [.lit (.bool false)], args := [d1, d2] }
  | _ => none }
def FnExactEulerBruijnWrongFalsely : Prop := fnExactEulerBruijnRow.holds Try.pinned (OpenSpec.ofChange fnExactEulerBruijnWrong)

/-- 'laws.FnExactCountBruijn': WHATEVER THE INPUT: true; the input reads as it did. -/
def fnExactCountBruijnSpec : ChangeSpec := { name := "fnExactCountBruijn", fn := fun _ => fun
  | [d1, d2] => { results := [.lit (.bool true)], args := [d1, d2] }
  | _ => none }
def fnExactCountBruijnRow : OpenClaim := { program := "ytaajfpjekfmddab", sum := "9b947591e2031b955d7814eefd7b4427ab33e7a8ce8cecc2011fdf8e9e5a57c5", func := "loop.example/g01104/laws.FnExactCountBruijn", spec := "fnExactCountBruijn", apart := false }
def FnExactCountBruijnSaid : Prop := fnExactCountBruijnRow.holds Try.pinned (OpenSpec.ofChange fnExactCountBruijnSpec)

/-- ITS FALSE NEIGHBOUR: 'it returns false'. Refute it at one input. -/
def fnExactCountBruijnWrong : ChangeSpec := { name := "fnExactCountBruijn", fn := fun _ => fun
  | [d1, d2] => { results := [.lit (.bool false)], args := [d1, d2] }
  | _ => none }
def FnExactCountBruijnWrongFalsely : Prop := fnExactCountBruijnRow.holds Try.pinned (OpenSpec.ofChange fnExactCountBruijnWrong)

/-- 'laws.FnExactAllBruijn': WHATEVER THE INPUT: true; the input reads as it did. -/
def fnExactAllBruijnSpec : ChangeSpec := { name := "fnExactAllBruijn", fn := fun _ => fun
  | [d1, d2] => { results := [.lit (.bool true)], args := [d1, d2] }
  | _ => none }
def fnExactAllBruijnRow : OpenClaim := { program := "ytaajfpjekfmddab", sum := "9b947591e2031b955d7814eefd7b4427ab33e7a8ce8cecc2011fdf8e9e5a57c5", func := "loop.example/g01104/laws.FnExactAllBruijn", spec := "fnExactAllBruijn", unfollowed := true, recurses := true, apart := false }
def FnExactAllBruijnSaid : Prop := fnExactAllBruijnRow.holds Try.pinned (OpenSpec.ofChange fnExactAllBruijnSpec)

/-- ITS FALSE NEIGHBOUR: 'it returns false'. Refute it at one input. -/
def fnExactAllBruijnWrong : ChangeSpec := { name := "fnExactAllBruijn", fn := fun _ => fun
  | [d1, d2] => { results := [.lit (.bool false)], args := [d1, d2] }
  | _ => none }
def FnExactAllBruijnWrongFalsely : Prop := fnExactAllBruijnRow.holds Try.pinned (OpenSpec.ofChange fnExactAllBruijnWrong)

/-- 'laws.FnExactWithoutZero': WHATEVER THE INPUT: true; the input reads as it did. -/
def fnExactWithoutZeroSpec : ChangeSpec := { name := "fnExactWithoutZero", fn := fun _ => fun
  | [d1, d2, d3] => { results := [.lit (.bool true)], args := [d1, d2, d3] }
  | _ => none }
def fnExactWithoutZeroRow : OpenClaim := { program := "ytaajfpjekfmddab", sum := "9b947591e2031b955d7814eefd7b4427ab33e7a8ce8cecc2011fdf8e9e5a57c5", func := "loop.example/g01104/laws.FnExactWithoutZero", spec := "fnExactWithoutZero", unfollowed := true, recurses := true, apart := false }
def FnExactWithoutZeroSaid : Prop := fnExactWithoutZeroRow.holds Try.pinned (OpenSpec.ofChange fnExactWithoutZeroSpec)

/-- ITS FALSE NEIGHBOUR: 'it returns false'. Refute it at one input. -/
def fnExactWithoutZeroWrong : ChangeSpec := { name := "fnExactWithoutZero", fn := fun _ => fun
  | [d1, d2, d3] => { results := [.lit (.bool false)], args := [d1, d2, d3] }
  | _ => none }
def FnExactWithoutZeroWrongFalsely : Prop := fnExactWithoutZeroRow.holds Try.pinned (OpenSpec.ofChange fnExactWithoutZeroWrong)

/-- 'laws.FnExactWithZero': WHATEVER THE INPUT: true; the input reads as it did. -/
def fnExactWithZeroSpec : ChangeSpec := { name := "fnExactWithZero", fn := fun _ => fun
  | [d1, d2, d3] => { results := [.lit (.bool true)], args := [d1, d2, d3] }
  | _ => none }
def fnExactWithZeroRow : OpenClaim := { program := "ytaajfpjekfmddab", sum := "9b947591e2031b955d7814eefd7b4427ab33e7a8ce8cecc2011fdf8e9e5a57c5", func := "loop.example/g01104/laws.FnExactWithZero", spec := "fnExactWithZero", unfollowed := true, recurses := true, apart := false }
def FnExactWithZeroSaid : Prop := fnExactWithZeroRow.holds Try.pinned (OpenSpec.ofChange fnExactWithZeroSpec)

/-- ITS FALSE NEIGHBOUR: 'it returns false'. Refute it at one input. -/
def fnExactWithZeroWrong : ChangeSpec := { name := "fnExactWithZero", fn := fun _ => fun
  | [d1, d2, d3] => { results := [.lit (.bool false)], args := [d1, d2, d3] }
  | _ => none }
def FnExactWithZeroWrongFalsely : Prop := fnExactWithZeroRow.holds Try.pinned (OpenSpec.ofChange fnExactWithZeroWrong)

/-- 'laws.FnExactRegisterWord': WHATEVER THE INPUT: true; the input reads as it did. -/
def fnExactRegisterWordSpec : ChangeSpec := { name := "fnExactRegisterWord", fn := fun _ => fun
  | [d1, d2] => { results := [.lit (.bool true)], args := [d1, d2] }
  | _ => none }
def fnExactRegisterWordRow : OpenClaim := { program := "ytaajfpjekfmddab", sum := "9b947591e2031b955d7814eefd7b4427ab33e7a8ce8cecc2011fdf8e9e5a57c5", func := "loop.example/g01104/laws.FnExactRegisterWord", spec := "fnExactRegisterWord", unfollowed := true, recurses := true, apart := false }
def FnExactRegisterWordSaid : Prop := fnExactRegisterWordRow.holds Try.pinned (OpenSpec.ofChange fnExactRegisterWordSpec)

/-- ITS FALSE NEIGHBOUR: 'it returns false'. Refute it at one input. -/
def fnExactRegisterWordWrong : ChangeSpec := { name := "fnExactRegisterWord", fn := fun _ => fun
  | [d1, d2] => { results := [.lit (.bool false)], args := [d1, d2] }
  | _ => none }
def FnExactRegisterWordWrongFalsely : Prop := fnExactRegisterWordRow.holds Try.pinned (OpenSpec.ofChange fnExactRegisterWordWrong)

/-- 'laws.FnExactIsFullRegister': WHATEVER THE INPUT: true; the input reads as it did. -/
def fnExactIsFullRegisterSpec : ChangeSpec := { name := "fnExactIsFullRegister", fn := fun _ => fun
  | [d1, d2] => { results := [.lit (.bool true)], args := [d1, d2] }
  | _ => none }
def fnExactIsFullRegisterRow : OpenClaim := { program := "ytaajfpjekfmddab", sum := "9b947591e2031b955d7814eefd7b4427ab33e7a8ce8cecc2011fdf8e9e5a57c5", func := "loop.example/g01104/laws.FnExactIsFullRegister", spec := "fnExactIsFullRegister", unfollowed := true, recurses := true, apart := false }
def FnExactIsFullRegisterSaid : Prop := fnExactIsFullRegisterRow.holds Try.pinned (OpenSpec.ofChange fnExactIsFullRegisterSpec)

/-- ITS FALSE NEIGHBOUR: 'it returns false'. Refute it at one input. -/
def fnExactIsFullRegisterWrong : ChangeSpec := { name := "fnExactIsFullRegister", fn := fun _ => fun
  | [d1, d2] => { results := [.lit (.bool false)], args := [d1, d2] }
  | _ => none }
def FnExactIsFullRegisterWrongFalsely : Prop := fnExactIsFullRegisterRow.holds Try.pinned (OpenSpec.ofChange fnExactIsFullRegisterWrong)

/-- 'laws.FnExactSpreadOf': WHATEVER THE INPUT: true; the input reads as it did. -/
def fnExactSpreadOfSpec : ChangeSpec := { name := "fnExactSpreadOf", fn := fun _ => fun
  | [d1, d2] => { results := [.lit (.bool true)], args := [d1, d2] }
  | _ => none }
def fnExactSpreadOfRow : OpenClaim := { program := "ytaajfpjekfmddab", sum := "9b947591e2031b955d7814eefd7b4427ab33e7a8ce8cecc2011fdf8e9e5a57c5", func := "loop.example/g01104/laws.FnExactSpreadOf", spec := "fnExactSpreadOf", apart := false }
def FnExactSpreadOfSaid : Prop := fnExactSpreadOfRow.holds Try.pinned (OpenSpec.ofChange fnExactSpreadOfSpec)

/-- ITS FALSE NEIGHBOUR: 'it returns false'. Refute it at one input. -/
def fnExactSpreadOfWrong : ChangeSpec := { name := "fnExactSpreadOf", fn := fun _ => fun
  | [d1, d2] => { results := [.lit (.bool false)], args := [d1, d2] }
  | _ => none }
def FnExactSpreadOfWrongFalsely : Prop := fnExactSpreadOfRow.holds Try.pinned (OpenSpec.ofChange fnExactSpreadOfWrong)

/-- 'laws.FnExactSafeLength': WHATEVER THE INPUT: true; the input reads as it did. -/
def fnExactSafeLengthSpec : ChangeSpec := { name := "fnExactSafeLength", fn := fun _ => fun
  | [d] => { results := [.lit (.bool true)], args := [d] }
  | _ => none }
def fnExactSafeLengthRow : OpenClaim := { program := "ytaajfpjekfmddab", sum := "9b947591e2031b955d7814eefd7b4427ab33e7a8ce8cecc2011fdf8e9e5a57c5", func := "loop.example/g01104/laws.FnExactSafeLength", spec := "fnExactSafeLength", apart := false }
def FnExactSafeLengthSaid : Prop := fnExactSafeLengthRow.holds Try.pinned (OpenSpec.ofChange fnExactSafeLengthSpec)

/-- ITS FALSE NEIGHBOUR: 'it returns false'. Refute it at one input. -/
def fnExactSafeLengthWrong : ChangeSpec := { name := "fnExactSafeLength", fn := fun _ => fun
  | [d] => { results := [.lit (.bool false)], args := [d] }
  | _ => none }
def FnExactSafeLengthWrongFalsely : Prop := fnExactSafeLengthRow.holds Try.pinned (OpenSpec.ofChange fnExactSafeLengthWrong)

/-- 'laws.FnExactMendWindow': WHATEVER THE INPUT: true; the input reads as it did. -/
def fnExactMendWindowSpec : ChangeSpec := { name := "fnExactMendWindow", fn := fun _ => fun
  | [d1, d2] => { results := [.lit (.bool true)], args := [d1, d2] }
  | _ => none }
def fnExactMendWindowRow : OpenClaim := { program := "ytaajfpjekfmddab", sum := "9b947591e2031b955d7814eefd7b4427ab33e7a8ce8cecc2011fdf8e9e5a57c5", func := "loop.example/g01104/laws.FnExactMendWindow", spec := "fnExactMendWindow", apart := false }
def FnExactMendWindowSaid : Prop := fnExactMendWindowRow.holds Try.pinned (OpenSpec.ofChange fnExactMendWindowSpec)

/-- ITS FALSE NEIGHBOUR: 'it returns false'. Refute it at one input. -/
def fnExactMendWindowWrong : ChangeSpec := { name := "fnExactMendWindow", fn := fun _ => fun
  | [d1, d2] => { results := [.lit (.bool false)], args := [d1, d2] }
  | _ => none }
def FnExactMendWindowWrongFalsely : Prop := fnExactMendWindowRow.holds Try.pinned (OpenSpec.ofChange fnExactMendWindowWrong)

/- THE SECOND FORM. 'bulk': how many values and letters a reading holds, each counted each time it is reached (what is shared counts as often as it is met; a slice's spare places count too). A statement '..UptoSaid' is the law's where the arguments, and the package variables that the reading takes, are together of bulk at most 1048576: NARROWER than '..Said'. Prove '..Said' where nothing that the law and all that it calls make is longer than what came in: it says more and counts as full. Else prove '..UptoSaid'. A law counts once. -/
mutual
def uptoBulk {H : Type} : DataW H → Nat
  | .lit (.string bytes) => bytes.length + 1
  | .lit _ => 1
  | .nil => 1
  | .ptr d => uptoBulk d + 1
  | .slice elems spare => uptoBulkAll elems + uptoBulkAll spare + 1
  | .agg parts => uptoBulkAll parts + 1
  | .iface _ d => uptoBulk d + 1
  | .map entries => uptoBulkEntries entries + 1
  | .held _ => 1
def uptoBulkAll {H : Type} : List (DataW H) → Nat
  | [] => 0
  | d :: r => uptoBulk d + uptoBulkAll r
def uptoBulkEntries {H : Type} : List (Lit × DataW H) → Nat
  | [] => 0
  | x :: r => uptoBulkEntry x + uptoBulkEntries r
def uptoBulkEntry {H : Type} : Lit × DataW H → Nat
  | (.string bytes, d) => bytes.length + uptoBulk d + 1
  | (_, d) => uptoBulk d + 1
 end
def uptoSmall : (H : Type) → List (DataW H) → Bool := fun _ ds => decide (uptoBulkAll ds ≤ 1048576)
def OpenSpec.upto (s : _root_.Go.ChangeSpec) : _root_.Go.OpenSpec := { _root_.Go.OpenSpec.ofChange s with cond := some uptoSmall }

/-- 'laws.FnExactEulerBruijn', WHERE WHAT IT READS IS OF BULK AT MOST 1048576: true; the input reads as it did. -/
def fnExactEulerBruijnUptoRow : OpenClaim := { program := "ytaajfpjekfmddab", sum := "9b947591e2031b955d7814eefd7b4427ab33e7a8ce8cecc2011fdf8e9e5a57c5", func := "loop.example/g01104/laws.FnExactEulerBruijn", spec := "fnExactEulerBruijn", unfollowed := true, recurses := true, apart := false, narrowed := true }
def FnExactEulerBruijnUptoSaid : Prop := fnExactEulerBruijnUptoRow.holds Try.pinned (OpenSpec.upto fnExactEulerBruijnSpec)

/-- 'laws.FnExactCountBruijn', WHERE WHAT IT READS IS OF BULK AT MOST 1048576: true; the input reads as it did. -/
def fnExactCountBruijnUptoRow : OpenClaim := { program := "ytaajfpjekfmddab", sum := "9b947591e2031b955d7814eefd7b4427ab33e7a8ce8cecc2011fdf8e9e5a57c5", func := "loop.example/g01104/laws.FnExactCountBruijn", spec := "fnExactCountBruijn", apart := false, narrowed := true }
def FnExactCountBruijnUptoSaid : Prop := fnExactCountBruijnUptoRow.holds Try.pinned (OpenSpec.upto fnExactCountBruijnSpec)

/-- 'laws.FnExactAllBruijn', WHERE WHAT IT READS IS OF BULK AT MOST 1048576: true; the input reads as it did. -/
def fnExactAllBruijnUptoRow : OpenClaim := { program := "ytaajfpjekfmddab", sum := "9b947591e2031b955d7814eefd7b4427ab33e7a8ce8cecc2011fdf8e9e5a57c5", func := "loop.example/g01104/laws.FnExactAllBruijn", spec := "fnExactAllBruijn", unfollowed := true, recurses := true, apart := false, narrowed := true }
def FnExactAllBruijnUptoSaid : Prop := fnExactAllBruijnUptoRow.holds Try.pinned (OpenSpec.upto fnExactAllBruijnSpec)

/-- 'laws.FnExactWithoutZero', WHERE WHAT IT READS IS OF BULK AT MOST 1048576: true; the input reads as it did. -/
def fnExactWithoutZeroUptoRow : OpenClaim := { program := "ytaajfpjekfmddab", sum := "9b947591e2031b955d7814eefd7b4427ab33e7a8ce8cecc2011fdf8e9e5a57c5", func := "loop.example/g01104/laws.FnExactWithoutZero", spec := "fnExactWithoutZero", unfollowed := true, recurses := true, apart := false, narrowed := true }
def FnExactWithoutZeroUptoSaid : Prop := fnExactWithoutZeroUptoRow.holds Try.pinned (OpenSpec.upto fnExactWithoutZeroSpec)

/-- 'laws.FnExactWithZero', WHERE WHAT IT READS IS OF BULK AT MOST 1048576: true; the input reads as it did. -/
def fnExactWithZeroUptoRow : OpenClaim := { program := "ytaajfpjekfmddab", sum := "9b947591e2031b955d7814eefd7b4427ab33e7a8ce8cecc2011fdf8e9e5a57c5", func := "loop.example/g01104/laws.FnExactWithZero", spec := "fnExactWithZero", unfollowed := true, recurses := true, apart := false, narrowed := true }
def FnExactWithZeroUptoSaid : Prop := fnExactWithZeroUptoRow.holds Try.pinned (OpenSpec.upto fnExactWithZeroSpec)

/-- 'laws.FnExactRegisterWord', WHERE WHAT IT READS IS OF BULK AT MOST 1048576: true; the input reads as it did. -/
def fnExactRegisterWordUptoRow : OpenClaim := { program := "ytaajfpjekfmddab", sum := "9b947591e2031b955d7814eefd7b4427ab33e7a8ce8cecc2011fdf8e9e5a57c5", func := "loop.example/g01104/laws.FnExactRegisterWord", spec := "fnExactRegisterWord", unfollowed := true, recurses := true, apart := false, narrowed := true }
def FnExactRegisterWordUptoSaid : Prop := fnExactRegisterWordUptoRow.holds Try.pinned (OpenSpec.upto fnExactRegisterWordSpec)

/-- 'laws.FnExactIsFullRegister', WHERE WHAT IT READS IS OF BULK AT MOST 1048576: true; the input reads as it did. -/
def fnExactIsFullRegisterUptoRow : OpenClaim := { program := "ytaajfpjekfmddab", sum := "9b947591e2031b955d7814eefd7b4427ab33e7a8ce8cecc2011fdf8e9e5a57c5", func := "loop.example/g01104/laws.FnExactIsFullRegister", spec := "fnExactIsFullRegister", unfollowed := true, recurses := true, apart := false, narrowed := true }
def FnExactIsFullRegisterUptoSaid : Prop := fnExactIsFullRegisterUptoRow.holds Try.pinned (OpenSpec.upto fnExactIsFullRegisterSpec)

/-- 'laws.FnExactSpreadOf', WHERE WHAT IT READS IS OF BULK AT MOST 1048576: true; the input reads as it did. -/
def fnExactSpreadOfUptoRow : OpenClaim := { program := "ytaajfpjekfmddab", sum := "9b947591e2031b955d7814eefd7b4427ab33e7a8ce8cecc2011fdf8e9e5a57c5", func := "loop.example/g01104/laws.FnExactSpreadOf", spec := "fnExactSpreadOf", apart := false, narrowed := true }
def FnExactSpreadOfUptoSaid : Prop := fnExactSpreadOfUptoRow.holds Try.pinned (OpenSpec.upto fnExactSpreadOfSpec)

/-- 'laws.FnExactSafeLength', WHERE WHAT IT READS IS OF BULK AT MOST 1048576: true; the input reads as it did. -/
def fnExactSafeLengthUptoRow : OpenClaim := { program := "ytaajfpjekfmddab", sum := "9b947591e2031b955d7814eefd7b4427ab33e7a8ce8cecc2011fdf8e9e5a57c5", func := "loop.example/g01104/laws.FnExactSafeLength", spec := "fnExactSafeLength", apart := false, narrowed := true }
def FnExactSafeLengthUptoSaid : Prop := fnExactSafeLengthUptoRow.holds Try.pinned (OpenSpec.upto fnExactSafeLengthSpec)

/-- 'laws.FnExactMendWindow', WHERE WHAT IT READS IS OF BULK AT MOST 1048576: true; the input reads as it did. -/
def fnExactMendWindowUptoRow : OpenClaim := { program := "ytaajfpjekfmddab", sum := "9b947591e2031b955d7814eefd7b4427ab33e7a8ce8cecc2011fdf8e9e5a57c5", func := "loop.example/g01104/laws.FnExactMendWindow", spec := "fnExactMendWindow", apart := false, narrowed := true }
def FnExactMendWindowUptoSaid : Prop := fnExactMendWindowUptoRow.holds Try.pinned (OpenSpec.upto fnExactMendWindowSpec)

end Rows
end Go.Proofs.Ytaajfpjekfmddab
