/-
  NARROWER THAN 'FOR EVERY INPUT', by the rows' own cells (each row's printed sentence says how): FnExactDeltasOf: laid · FnExactChangesOf: laid · FnExactIsCode: laid · FnExactIsRoundCode: laid · FnExactIsEvenlyChanged: laid · FnExactLeastRun: laid · FnExactNextReflected: laid.
  DERIVED. THE GIVEN ROWS OF THIS SEAT. 7 by the template 'for every input the law returns true; each argument reads behind the call as it read before'; 0 by the template 'total and deterministic' (their statements: YteejdagnlepegaaDoorTotals.lean).
  GIVEN WITH THE SEED: the statements are not yours to turn. If you find one false, say at which input.
  Laid BY PROGRAM, IN A SANDBOX (cutbox-rows.mjs): the forced cells as the released guide's own fill.sh prints them over the translation d3feb991d766dbe4… (all of the seat's roots in one cut). By AI agents, Wed Nov 11 2026. No macro, syntax, notation, axiom, sorry.
-/
import Derived.Test.YteejdagnlepegaaDoorChecked
import GoSem.Claim
import GoSem.ClaimJoined
import GoSem.ClaimMapViews
import Derived.JoinedTies
import Derived.KernelRfl
namespace Go.Proofs.YteejdagnlepegaaDoor
/- THE CELL 'sum', in the pinned program and in every row, IS THE sha256 OF THE DUMP (.gsa) THAT YteejdagnlepegaaDoorProg.lean LOADS. Nothing in Lean hashes anything: it is a label: what it is worth is what the hold of that sum in a sandbox is worth. -/
noncomputable def Tryd.pinned : Pinned := { name := "yteejdagnlepegaadoor", sum := "d3feb991d766dbe444b40a59c84d933386edf3d3cd50b20a0085f8afbf288ef2", checked := Tryd.checked }
namespace Rows
def none {H : Type} : Left H := { results := [], args := [] }

/- WHAT THE LISTED PACKAGE-LEVEL VARIABLES READ AS WHEN THE CALL BEGINS. Each datum BY PROGRAM (the guide's laid-datum.mjs) off the statement by which the dump's own 'gosem.cut.vars' lays the variable. In a bare row this is a premise. The card (YteejdagnlepegaaDoorCards.lean) ties it to the program's text. -/
def laid_math_bits_deBruijn32tab {H : Type} : DataW H := .agg [.lit (.int .u8 0), .lit (.int .u8 1), .lit (.int .u8 28), .lit (.int .u8 2), .lit (.int .u8 29), .lit (.int .u8 14), .lit (.int .u8 24), .lit (.int .u8 3), .lit (.int .u8 30), .lit (.int .u8 22), .lit (.int .u8 20), .lit (.int .u8 15), .lit (.int .u8 25), .lit (.int .u8 17), .lit (.int .u8 4), .lit (.int .u8 8), .lit (.int .u8 31), .lit (.int .u8 27), .lit (.int .u8 13), .lit (.int .u8 23), .lit (.int .u8 21), .lit (.int .u8 19), .lit (.int .u8 16), .lit (.int .u8 7), .lit (.int .u8 26), .lit (.int .u8 12), .lit (.int .u8 18), .lit (.int .u8 6), .lit (.int .u8 11), .lit (.int .u8 5), .lit (.int .u8 10), .lit (.int .u8 9)]
def laid_math_bits_deBruijn64tab {H : Type} : DataW H := .agg [.lit (.int .u8 0), .lit (.int .u8 1), .lit (.int .u8 56), .lit (.int .u8 2), .lit (.int .u8 57), .lit (.int .u8 49), .lit (.int .u8 28), .lit (.int .u8 3), .lit (.int .u8 61), .lit (.int .u8 58), .lit (.int .u8 42), .lit (.int .u8 50), .lit (.int .u8 38), .lit (.int .u8 29), .lit (.int .u8 17), .lit (.int .u8 4), .lit (.int .u8 62), .lit (.int .u8 47), .lit (.int .u8 59), .lit (.int .u8 36), .lit (.int .u8 45), .lit (.int .u8 43), .lit (.int .u8 51), .lit (.int .u8 22), .lit (.int .u8 53), .lit (.int .u8 39), .lit (.int .u8 33), .lit (.int .u8 30), .lit (.int .u8 24), .lit (.int .u8 18), .lit (.int .u8 12), .lit (.int .u8 5), .lit (.int .u8 63), .lit (.int .u8 55), .lit (.int .u8 48), .lit (.int .u8 27), .lit (.int .u8 60), .lit (.int .u8 41), .lit (.int .u8 37), .lit (.int .u8 16), .lit (.int .u8 46), .lit (.int .u8 35), .lit (.int .u8 44), .lit (.int .u8 21), .lit (.int .u8 52), .lit (.int .u8 32), .lit (.int .u8 23), .lit (.int .u8 11), .lit (.int .u8 54), .lit (.int .u8 26), .lit (.int .u8 40), .lit (.int .u8 15), .lit (.int .u8 34), .lit (.int .u8 20), .lit (.int .u8 31), .lit (.int .u8 10), .lit (.int .u8 25), .lit (.int .u8 14), .lit (.int .u8 19), .lit (.int .u8 9), .lit (.int .u8 13), .lit (.int .u8 8), .lit (.int .u8 7), .lit (.int .u8 6)]

/-- 'laws.FnExactDeltasOf': WHATEVER THE INPUT: true; the input reads as it did. -/
def fnExactDeltasOfSpec : ChangeSpec := { name := "fnExactDeltasOf", fn := fun _ => fun
  | [d1, d2] => { results := [.lit (.bool true)], args := [d1, d2] }
  | _ => none }
def fnExactDeltasOfRow : OpenClaim := { program := "yteejdagnlepegaadoor", sum := "d3feb991d766dbe444b40a59c84d933386edf3d3cd50b20a0085f8afbf288ef2", func := "loop.example/g01104/laws.FnExactDeltasOf", spec := "fnExactDeltasOf", named := ["math/bits.deBruijn32tab", "math/bits.deBruijn64tab"], apart := false, laid := [("math/bits.deBruijn32tab", laid_math_bits_deBruijn32tab), ("math/bits.deBruijn64tab", laid_math_bits_deBruijn64tab)] }
def FnExactDeltasOfSaid : Prop := fnExactDeltasOfRow.holds Tryd.pinned (OpenSpec.ofChange fnExactDeltasOfSpec)

/-- ITS FALSE NEIGHBOUR: 'it returns false'. Refute it at one input. -/
def fnExactDeltasOfWrong : ChangeSpec := { name := "fnExactDeltasOf", fn := fun _ => fun
  | [d1, d2] => { results := [.lit (.bool false)], args := [d1, d2] }
  | _ => none }
def FnExactDeltasOfWrongFalsely : Prop := fnExactDeltasOfRow.holds Tryd.pinned (OpenSpec.ofChange fnExactDeltasOfWrong)

/-- 'laws.FnExactChangesOf': WHATEVER THE INPUT: true; the input reads as it did. -/
def fnExactChangesOfSpec : ChangeSpec := { name := "fnExactChangesOf", fn := fun _ => fun
  | [d1, d2] => { results := [.lit (.bool true)], args := [d1, d2] }
  | _ => none }
def fnExactChangesOfRow : OpenClaim := { program := "yteejdagnlepegaadoor", sum := "d3feb991d766dbe444b40a59c84d933386edf3d3cd50b20a0085f8afbf288ef2", func := "loop.example/g01104/laws.FnExactChangesOf", spec := "fnExactChangesOf", named := ["math/bits.deBruijn32tab", "math/bits.deBruijn64tab"], apart := false, laid := [("math/bits.deBruijn32tab", laid_math_bits_deBruijn32tab), ("math/bits.deBruijn64tab", laid_math_bits_deBruijn64tab)] }
def FnExactChangesOfSaid : Prop := fnExactChangesOfRow.holds Tryd.pinned (OpenSpec.ofChange fnExactChangesOfSpec)

/-- ITS FALSE NEIGHBOUR: 'it returns false'. Refute it at one input. -/
def fnExactChangesOfWrong : ChangeSpec := { name := "fnExactChangesOf", fn := fun _ => fun
  | [d1, d2] => { results := [.lit (.bool false)], args := [d1, d2] }
  | _ => none }
def FnExactChangesOfWrongFalsely : Prop := fnExactChangesOfRow.holds Tryd.pinned (OpenSpec.ofChange fnExactChangesOfWrong)

/-- 'laws.FnExactIsCode': WHATEVER THE INPUT: true; the input reads as it did. -/
def fnExactIsCodeSpec : ChangeSpec := { name := "fnExactIsCode", fn := fun _ => fun
  | [d1, d2] => { results := [.lit (.bool true)], args := [d1, d2] }
  | _ => none }
def fnExactIsCodeRow : OpenClaim := { program := "yteejdagnlepegaadoor", sum := "d3feb991d766dbe444b40a59c84d933386edf3d3cd50b20a0085f8afbf288ef2", func := "loop.example/g01104/laws.FnExactIsCode", spec := "fnExactIsCode", named := ["math/bits.deBruijn32tab", "math/bits.deBruijn64tab"], apart := false, laid := [("math/bits.deBruijn32tab", laid_math_bits_deBruijn32tab), ("math/bits.deBruijn64tab", laid_math_bits_deBruijn64tab)] }
def FnExactIsCodeSaid : Prop := fnExactIsCodeRow.holds Tryd.pinned (OpenSpec.ofChange fnExactIsCodeSpec)

/-- ITS FALSE NEIGHBOUR: 'it returns false'. Refute it at one input. -/
def fnExactIsCodeWrong : ChangeSpec := { name := "fnExactIsCode", fn := fun _ => fun
  | [d1, d2] => { results := [.lit (.bool false)], args := [d1, d2] }
  | _ => none }
def FnExactIsCodeWrongFalsely : Prop := fnExactIsCodeRow.holds Tryd.pinned (OpenSpec.ofChange fnExactIsCodeWrong)

/-- 'laws.FnExactIsRoundCode': WHATEVER THE INPUT: true; the input reads as it did. -/
def fnExactIsRoundCodeSpec : ChangeSpec := { name := "fnExactIsRoundCode", fn := fun _ => fun
  | [d1, d2] => { results := [.lit (.bool true)], args := [d1, d2] }
  | _ => none }
def fnExactIsRoundCodeRow : OpenClaim := { program := "yteejdagnlepegaadoor", sum := "d3feb991d766dbe444b40a59c84d933386edf3d3cd50b20a0085f8afbf288ef2", func := "loop.example/g01104/laws.FnExactIsRoundCode", spec := "fnExactIsRoundCode", named := ["math/bits.deBruijn32tab", "math/bits.deBruijn64tab"], apart := false, laid := [("math/bits.deBruijn32tab", laid_math_bits_deBruijn32tab), ("math/bits.deBruijn64tab", laid_math_bits_deBruijn64tab)] }
def FnExactIsRoundCodeSaid : Prop := fnExactIsRoundCodeRow.holds Tryd.pinned (OpenSpec.ofChange fnExactIsRoundCodeSpec)

/-- ITS FALSE NEIGHBOUR: 'it returns false'. Refute it at one input. -/
def fnExactIsRoundCodeWrong : ChangeSpec := { name := "fnExactIsRoundCode", fn := fun _ => fun
  | [d1, d2] => { results := [.lit (.bool false)], args := [d1, d2] }
  | _ => none }
def FnExactIsRoundCodeWrongFalsely : Prop := fnExactIsRoundCodeRow.holds Tryd.pinned (OpenSpec.ofChange fnExactIsRoundCodeWrong)

/-- 'laws.FnExactIsEvenlyChanged': WHATEVER THE INPUT: true; the input reads as it did. -/
def fnExactIsEvenlyChangedSpec : ChangeSpec := { name := "fnExactIsEvenlyChanged", fn := fun _ => fun
  | [d1, d2] => { results := [.lit (.bool true)], args := [d1, d2] }
  | _ => none }
def fnExactIsEvenlyChangedRow : OpenClaim := { program := "yteejdagnlepegaadoor", sum := "d3feb991d766dbe444b40a59c84d933386edf3d3cd50b20a0085f8afbf288ef2", func := "loop.example/g01104/laws.FnExactIsEvenlyChanged", spec := "fnExactIsEvenlyChanged", named := ["math/bits.deBruijn32tab", "math/bits.deBruijn64tab"], apart := false, laid := [("math/bits.deBruijn32tab", laid_math_bits_deBruijn32tab), ("math/bits.deBruijn64tab", laid_math_bits_deBruijn64tab)] }
def FnExactIsEvenlyChangedSaid : Prop := fnExactIsEvenlyChangedRow.holds Tryd.pinned (OpenSpec.ofChange fnExactIsEvenlyChangedSpec)

/-- ITS FALSE NEIGHBOUR: 'it returns false'. Refute it at one input. -/
def fnExactIsEvenlyChangedWrong : ChangeSpec := { name := "fnExactIsEvenlyChanged", fn := fun _ => fun
  | [d1, d2] => { results := [.lit (.bool false)], args := [d1, d2] }
  | _ => none }
def FnExactIsEvenlyChangedWrongFalsely : Prop := fnExactIsEvenlyChangedRow.holds Tryd.pinned (OpenSpec.ofChange fnExactIsEvenlyChangedWrong)

/-- 'laws.FnExactLeastRun': WHATEVER THE INPUT: true; the input reads as it did. -/
def fnExactLeastRunSpec : ChangeSpec := { name := "fnExactLeastRun", fn := fun _ => fun
  | [d1, d2] => { results := [.lit (.bool true)], args := [d1, d2] }
  | _ => none }
def fnExactLeastRunRow : OpenClaim := { program := "yteejdagnlepegaadoor", sum := "d3feb991d766dbe444b40a59c84d933386edf3d3cd50b20a0085f8afbf288ef2", func := "loop.example/g01104/laws.FnExactLeastRun", spec := "fnExactLeastRun", named := ["math/bits.deBruijn32tab", "math/bits.deBruijn64tab"], apart := false, laid := [("math/bits.deBruijn32tab", laid_math_bits_deBruijn32tab), ("math/bits.deBruijn64tab", laid_math_bits_deBruijn64tab)] }
def FnExactLeastRunSaid : Prop := fnExactLeastRunRow.holds Tryd.pinned (OpenSpec.ofChange fnExactLeastRunSpec)

/-- ITS FALSE NEIGHBOUR: 'it returns false'. Refute it at one input. -/
def fnExactLeastRunWrong : ChangeSpec := { name := "fnExactLeastRun", fn := fun _ => fun
  | [d1, d2] => { results := [.lit (.bool false)], args := [d1, d2] }
  | _ => none }
def FnExactLeastRunWrongFalsely : Prop := fnExactLeastRunRow.holds Tryd.pinned (OpenSpec.ofChange fnExactLeastRunWrong)

/-- 'laws.FnExactNextReflected': WHATEVER THE INPUT: true; the input reads as it did. -/
def fnExactNextReflectedSpec : ChangeSpec := { name := "fnExactNextReflected", fn := fun _ => fun
  | [d1, d2] => { results := [.lit (.bool true)], args := [d1, d2] }
  | _ => none }
def fnExactNextReflectedRow : OpenClaim := { program := "yteejdagnlepegaadoor", sum := "d3feb991d766dbe444b40a59c84d933386edf3d3cd50b20a0085f8afbf288ef2", func := "loop.example/g01104/laws.FnExactNextReflected", spec := "fnExactNextReflected", recurses := true, named := ["math/bits.deBruijn32tab", "math/bits.deBruijn64tab"], apart := false, laid := [("math/bits.deBruijn32tab", laid_math_bits_deBruijn32tab), ("math/bits.deBruijn64tab", laid_math_bits_deBruijn64tab)] }
def FnExactNextReflectedSaid : Prop := fnExactNextReflectedRow.holds Tryd.pinned (OpenSpec.ofChange fnExactNextReflectedSpec)

/-- ITS FALSE NEIGHBOUR: 'it returns false'. Refute it at one input. -/
def fnExactNextReflectedWrong : ChangeSpec := { name := "fnExactNextReflected", fn := fun _ => fun
  | [d1, d2] => { results := [.lit (.bool false)], args := [d1, d2] }
  | _ => none }
def FnExactNextReflectedWrongFalsely : Prop := fnExactNextReflectedRow.holds Tryd.pinned (OpenSpec.ofChange fnExactNextReflectedWrong)

/- THE SECOND FORM. 'bulk': how many values and letters a reading holds, each counted each time it is reached (what is shared counts as often as it is met; a slice's spare places count too). A statement '..UptoSaid' is the law's where the arguments, and the package variables that the reading takes, are together of bulk at most 1048576: NARROWER than '..Said'. Prove '..Said' where nothing that the law and all that it calls make is longer than what came in: it says more and counts as full. Else prove '..UptoSaid'. A law counts once. -/
mutual
def uptoBulk {H : Type} : DataW H → Nat
  | .lit (.string bytes) => bytes.length + 1
  | .lit _ => 1
  | .nil => 1
  | .ptr d => uptoBulk d + 1
  | .slice elems spare => uptoBulkAll elems + uptoBulkAll spare + 1
  | .agg parts => uptoBulkAll parts + 1
  | .iface _ d => uptoBulk d + 1
  | .map entries => uptoBulkEntries entries + 1
  | .held _ => 1
def uptoBulkAll {H : Type} : List (DataW H) → Nat
  | [] => 0
  | d :: r => uptoBulk d + uptoBulkAll r
def uptoBulkEntries {H : Type} : List (Lit × DataW H) → Nat
  | [] => 0
  | x :: r => uptoBulkEntry x + uptoBulkEntries r
def uptoBulkEntry {H : Type} : Lit × DataW H → Nat
  | (.string bytes, d) => bytes.length + uptoBulk d + 1
  | (_, d) => uptoBulk d + 1
 end
def uptoSmall : (H : Type) → List (DataW H) → Bool := fun _ ds => decide (uptoBulkAll ds ≤ 1048576)
def OpenSpec.upto (s : _root_.Go.ChangeSpec) : _root_.Go.OpenSpec := { _root_.Go.OpenSpec.ofChange s with cond := some uptoSmall }

/-- 'laws.FnExactDeltasOf', WHERE WHAT IT READS IS OF BULK AT MOST 1048576: true; the input reads as it did. -/
def fnExactDeltasOfUptoRow : OpenClaim := { program := "yteejdagnlepegaadoor", sum := "d3feb991d766dbe444b40a59c84d933386edf3d3cd50b20a0085f8afbf288ef2", func := "loop.example/g01104/laws.FnExactDeltasOf", spec := "fnExactDeltasOf", named := ["math/bits.deBruijn32tab", "math/bits.deBruijn64tab"], apart := false, laid := [("math/bits.deBruijn32tab", laid_math_bits_deBruijn32tab), ("math/bits.deBruijn64tab", laid_math_bits_deBruijn64tab)], narrowed := true }
def FnExactDeltasOfUptoSaid : Prop := fnExactDeltasOfUptoRow.holds Tryd.pinned (OpenSpec.upto fnExactDeltasOfSpec)

/-- 'laws.FnExactChangesOf', WHERE WHAT IT READS IS OF BULK AT MOST 1048576: true; the input reads as it did. -/
def fnExactChangesOfUptoRow : OpenClaim := { program := "yteejdagnlepegaadoor", sum := "d3feb991d766dbe444b40a59c84d933386edf3d3cd50b20a0085f8afbf288ef2", func := "loop.example/g01104/laws.FnExactChangesOf", spec := "fnExactChangesOf", named := ["math/bits.deBruijn32tab", "math/bits.deBruijn64tab"], apart := false, laid := [("math/bits.deBruijn32tab", laid_math_bits_deBruijn32tab), ("math/bits.deBruijn64tab", laid_math_bits_deBruijn64tab)], narrowed := true }
def FnExactChangesOfUptoSaid : Prop := fnExactChangesOfUptoRow.holds Tryd.pinned (OpenSpec.upto fnExactChangesOfSpec)

/-- 'laws.FnExactIsCode', WHERE WHAT IT READS IS OF BULK AT MOST 1048576: true; the input reads as it did. -/
def fnExactIsCodeUptoRow : OpenClaim := { program := "yteejdagnlepegaadoor", sum := "d3feb991d766dbe444b40a59c84d933386edf3d3cd50b20a0085f8afbf288ef2", func := "loop.example/g01104/laws.FnExactIsCode", spec := "fnExactIsCode", named := ["math/bits.deBruijn32tab", "math/bits.deBruijn64tab"], apart := false, laid := [("math/bits.deBruijn32tab", laid_math_bits_deBruijn32tab), ("math/bits.deBruijn64tab", laid_math_bits_deBruijn64tab)], narrowed := true }
def FnExactIsCodeUptoSaid : Prop := fnExactIsCodeUptoRow.holds Tryd.pinned (OpenSpec.upto fnExactIsCodeSpec)

/-- 'laws.FnExactIsRoundCode', WHERE WHAT IT READS IS OF BULK AT MOST 1048576: true; the input reads as it did. -/
def fnExactIsRoundCodeUptoRow : OpenClaim := { program := "yteejdagnlepegaadoor", sum := "d3feb991d766dbe444b40a59c84d933386edf3d3cd50b20a0085f8afbf288ef2", func := "loop.example/g01104/laws.FnExactIsRoundCode", spec := "fnExactIsRoundCode", named := ["math/bits.deBruijn32tab", "math/bits.deBruijn64tab"], apart := false, laid := [("math/bits.deBruijn32tab", laid_math_bits_deBruijn32tab), ("math/bits.deBruijn64tab", laid_math_bits_deBruijn64tab)], narrowed := true }
def FnExactIsRoundCodeUptoSaid : Prop := fnExactIsRoundCodeUptoRow.holds Tryd.pinned (OpenSpec.upto fnExactIsRoundCodeSpec)

/-- 'laws.FnExactIsEvenlyChanged', WHERE WHAT IT READS IS OF BULK AT MOST 1048576: true; the input reads as it did. -/
def fnExactIsEvenlyChangedUptoRow : OpenClaim := { program := "yteejdagnlepegaadoor", sum := "d3feb991d766dbe444b40a59c84d933386edf3d3cd50b20a0085f8afbf288ef2", func := "loop.example/g01104/laws.FnExactIsEvenlyChanged", spec := "fnExactIsEvenlyChanged", named := ["math/bits.deBruijn32tab", "math/bits.deBruijn64tab"], apart := false, laid := [("math/bits.deBruijn32tab", laid_math_bits_deBruijn32tab), ("math/bits.deBruijn64tab", laid_math_bits_deBruijn64tab)], narrowed := true }
def FnExactIsEvenlyChangedUptoSaid : Prop := fnExactIsEvenlyChangedUptoRow.holds Tryd.pinned (OpenSpec.upto fnExactIsEvenlyChangedSpec)

/-- 'laws.FnExactLeastRun', WHERE WHAT IT READS IS OF BULK AT MOST 1048576: true; the input reads as it did. -/
def fnExactLeastRunUptoRow : OpenClaim := { program := "yteejdagnlepegaadoor", sum := "d3feb991d766dbe444b40a59c84d933386edf3d3cd50b20a0085f8afbf288ef2", func := "loop.example/g01104/laws.FnExactLeastRun", spec := "fnExactLeastRun", named := ["math/bits.deBruijn32tab", "math/bits.deBruijn64tab"], apart := false, laid := [("math/bits.deBruijn32tab", laid_math_bits_deBruijn32tab), ("math/bits.deBruijn64tab", laid_math_bits_deBruijn64tab)], narrowed := true }
def FnExactLeastRunUptoSaid : Prop := fnExactLeastRunUptoRow.holds Tryd.pinned (OpenSpec.upto fnExactLeastRunSpec)

/-- 'laws.FnExactNextReflected', WHERE WHAT IT READS IS OF BULK AT MOST 1048576: true; the input reads as it did. -/
def fnExactNextReflectedUptoRow : OpenClaim := { program := "yteejdagnlepegaadoor", sum := "d3feb991d766dbe444b40a59c84d933386edf3d3cd50b20a0085f8afbf288ef2", func := "loop.example/g01104/laws.FnExactNextReflected", spec := "fnExactNextReflected", recurses := true, named := ["math/bits.deBruijn32tab", "math/bits.deBruijn64tab"], apart := false, laid := [("math/bits.deBruijn32tab", laid_math_bits_deBruijn32tab), ("math/bits.deBruijn64tab", laid_math_bits_deBruijn64tab)], narrowed := true }
def FnExactNextReflectedUptoSaid : Prop := fnExactNextReflectedUptoRow.holds Tryd.pinned (OpenSpec.upto fnExactNextReflectedSpec)

end Rows
end Go.Proofs.YteejdagnlepegaaDoor
