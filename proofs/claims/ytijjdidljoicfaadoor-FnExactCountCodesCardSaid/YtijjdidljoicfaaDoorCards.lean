/-
  DERIVED. GIVEN WITH THE SEED: THE CARDS: each row of YtijjdidljoicfaaDoorRows.lean that lists a variable, with what it lists TIED to the program's text (the seventh form; the later family's looks); each row that meets fmt, with fmt's text TOLD by the authors' own Lean function (tested against real Go, not proved from fmt's source: count such statements apart). THE CARD IS WHAT COUNTS. Prove the row's statement (the work); the ties are given (YtijjdidljoicfaaDoorTie.lean); close each card by the builder's one call (the guide's Derived/Test/ToyasCard.lean, 'card_holds'). Laid BY PROGRAM, IN A SANDBOX (cutbox-door.mjs). By AI agents, Wed Nov 11 2026. No macro, syntax, notation, axiom, sorry.
-/
import Derived.Test.YtijjdidljoicfaaDoorRows
import GoSem.ClaimSeven
namespace Go.Proofs.YtijjdidljoicfaaDoor
namespace Rows

/-- THE TIED CARD OF 'laws.FnExactPathThrough'. -/
def fnExactPathThroughCard : Claim7 := { stood := { row := fnExactPathThroughRow, standIns := [], harness := (true, "80dd964c70a74cd40a41073a431c82b759ee8d165d11e82ea7569e9b286a17ed"), looks := false }, kinds := [], alts := [], laidByText := true, laidKinds := [.data, .data], laidTests := true, laidLooks := .later }
def FnExactPathThroughCardSaid : Prop := Claim7.holds Tryd.pinned (.plain (OpenSpec.ofChange fnExactPathThroughSpec)) fnExactPathThroughCard

/-- THE TIED CARD OF 'laws.FnExactCountCodes'. -/
def fnExactCountCodesCard : Claim7 := { stood := { row := fnExactCountCodesRow, standIns := [], harness := (true, "80dd964c70a74cd40a41073a431c82b759ee8d165d11e82ea7569e9b286a17ed"), looks := false }, kinds := [], alts := [], laidByText := true, laidKinds := [.data, .data], laidTests := true, laidLooks := .later }
def FnExactCountCodesCardSaid : Prop := Claim7.holds Tryd.pinned (.plain (OpenSpec.ofChange fnExactCountCodesSpec)) fnExactCountCodesCard

/-- THE SECOND FORM's CARD OF 'laws.FnExactPathThrough'. -/
def fnExactPathThroughUptoCard : Claim7 := { stood := { row := fnExactPathThroughUptoRow, standIns := [], harness := (true, "80dd964c70a74cd40a41073a431c82b759ee8d165d11e82ea7569e9b286a17ed"), looks := false }, kinds := [], alts := [], laidByText := true, laidKinds := [.data, .data], laidTests := true, laidLooks := .later }
def FnExactPathThroughUptoCardSaid : Prop := Claim7.holds Tryd.pinned (.plain (OpenSpec.upto fnExactPathThroughSpec)) fnExactPathThroughUptoCard

/-- THE SECOND FORM's CARD OF 'laws.FnExactCountCodes'. -/
def fnExactCountCodesUptoCard : Claim7 := { stood := { row := fnExactCountCodesUptoRow, standIns := [], harness := (true, "80dd964c70a74cd40a41073a431c82b759ee8d165d11e82ea7569e9b286a17ed"), looks := false }, kinds := [], alts := [], laidByText := true, laidKinds := [.data, .data], laidTests := true, laidLooks := .later }
def FnExactCountCodesUptoCardSaid : Prop := Claim7.holds Tryd.pinned (.plain (OpenSpec.upto fnExactCountCodesSpec)) fnExactCountCodesUptoCard
end Rows
end Go.Proofs.YtijjdidljoicfaaDoor
