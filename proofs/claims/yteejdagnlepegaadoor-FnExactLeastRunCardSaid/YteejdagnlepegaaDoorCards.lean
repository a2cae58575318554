/-
  DERIVED. GIVEN WITH THE SEED: THE CARDS: each row of YteejdagnlepegaaDoorRows.lean that lists a variable, with what it lists TIED to the program's text (the seventh form; the later family's looks); each row that meets fmt, with fmt's text TOLD by the authors' own Lean function (tested against real Go, not proved from fmt's source: count such statements apart). THE CARD IS WHAT COUNTS. Prove the row's statement (the work); the ties are given (YteejdagnlepegaaDoorTie.lean); close each card by the builder's one call (the guide's Derived/Test/ToyasCard.lean, 'card_holds'). Laid BY PROGRAM, IN A SANDBOX (cutbox-door.mjs). By AI agents, Wed Nov 11 2026. No macro, syntax, notation, axiom, sorry.
-/
import Derived.Test.YteejdagnlepegaaDoorRows
import GoSem.ClaimSeven
namespace Go.Proofs.YteejdagnlepegaaDoor
namespace Rows

/-- THE TIED CARD OF 'laws.FnExactDeltasOf'. -/
def fnExactDeltasOfCard : Claim7 := { stood := { row := fnExactDeltasOfRow, standIns := [], harness := (true, "001d34b7aec308dcef4c7728d318b9c057d12c568093e701e923a1a9f8caf6e5"), looks := false }, kinds := [], alts := [], laidByText := true, laidKinds := [.data, .data], laidTests := true, laidLooks := .later }
def FnExactDeltasOfCardSaid : Prop := Claim7.holds Tryd.pinned (.plain (OpenSpec.ofChange fnExactDeltasOfSpec)) fnExactDeltasOfCard

/-- THE TIED CARD OF 'laws.FnExactChangesOf'. -/
def fnExactChangesOfCard : Claim7 := { stood := { row := fnExactChangesOfRow, standIns := [], harness := (true, "001d34b7aec308dcef4c7728d318b9c057d12c568093e701e923a1a9f8caf6e5"), looks := false }, kinds := [], alts := [], laidByText := true, laidKinds := [.data, .data], laidTests := true, laidLooks := .later }
def FnExactChangesOfCardSaid : Prop := Claim7.holds Tryd.pinned (.plain (OpenSpec.ofChange fnExactChangesOfSpec)) fnExactChangesOfCard

/-- THE TIED CARD OF 'laws.FnExactIsCode'. -/
def fnExactIsCodeCard : Claim7 := { stood := { row := fnExactIsCodeRow, standIns := [], harness := (true, "001d34b7aec308dcef4c7728d318b9c057d12c568093e701e923a1a9f8caf6e5"), looks := false }, kinds := [], alts := [], laidByText := true, laidKinds := [.data, .data], laidTests := true, laidLooks := .later }
def FnExactIsCodeCardSaid : Prop := Claim7.holds Tryd.pinned (.plain (OpenSpec.ofChange fnExactIsCodeSpec)) fnExactIsCodeCard

/-- THE TIED CARD OF 'laws.FnExactIsRoundCode'. -/
def fnExactIsRoundCodeCard : Claim7 := { stood := { row := fnExactIsRoundCodeRow, standIns := [], harness := (true, "001d34b7aec308dcef4c7728d318b9c057d12c568093e701e923a1a9f8caf6e5"), looks := false }, kinds := [], alts := [], laidByText := true, laidKinds := [.data, .data], laidTests := true, laidLooks := .later }
def FnExactIsRoundCodeCardSaid : Prop := Claim7.holds Tryd.pinned (.plain (OpenSpec.ofChange fnExactIsRoundCodeSpec)) fnExactIsRoundCodeCard

/-- THE TIED CARD OF 'laws.FnExactIsEvenlyChanged'. -/
def fnExactIsEvenlyChangedCard : Claim7 := { stood := { row := fnExactIsEvenlyChangedRow, standIns := [], harness := (true, "001d34b7aec308dcef4c7728d318b9c057d12c568093e701e923a1a9f8caf6e5"), looks := false }, kinds := [], alts := [], laidByText := true, laidKinds := [.data, .data], laidTests := true, laidLooks := .later }
def FnExactIsEvenlyChangedCardSaid : Prop := Claim7.holds Tryd.pinned (.plain (OpenSpec.ofChange fnExactIsEvenlyChangedSpec)) fnExactIsEvenlyChangedCard

/-- THE TIED CARD OF 'laws.FnExactLeastRun'. -/
def fnExactLeastRunCard : Claim7 := { stood := { row := fnExactLeastRunRow, standIns := [], harness := (true, "001d34b7aec308dcef4c7728d318b9c057d12c568093e701e923a1a9f8caf6e5"), looks := false }, kinds := [], alts := [], laidByText := true, laidKinds := [.data, .data], laidTests := true, laidLooks := .later }
def FnExactLeastRunCardSaid : Prop := Claim7.holds Tryd.pinned (.plain (OpenSpec.ofChange fnExactLeastRunSpec)) fnExactLeastRunCard

/-- THE TIED CARD OF 'laws.FnExactNextReflected'. -/
def fnExactNextReflectedCard : Claim7 := { stood := { row := fnExactNextReflectedRow, standIns := [], harness := (true, "001d34b7aec308dcef4c7728d318b9c057d12c568093e701e923a1a9f8caf6e5"), looks := false }, kinds := [], alts := [], laidByText := true, laidKinds := [.data, .data], laidTests := true, laidLooks := .later }
def FnExactNextReflectedCardSaid : Prop := Claim7.holds Tryd.pinned (.plain (OpenSpec.ofChange fnExactNextReflectedSpec)) fnExactNextReflectedCard

/-- THE SECOND FORM's CARD OF 'laws.FnExactDeltasOf'. -/
def fnExactDeltasOfUptoCard : Claim7 := { stood := { row := fnExactDeltasOfUptoRow, standIns := [], harness := (true, "001d34b7aec308dcef4c7728d318b9c057d12c568093e701e923a1a9f8caf6e5"), looks := false }, kinds := [], alts := [], laidByText := true, laidKinds := [.data, .data], laidTests := true, laidLooks := .later }
def FnExactDeltasOfUptoCardSaid : Prop := Claim7.holds Tryd.pinned (.plain (OpenSpec.upto fnExactDeltasOfSpec)) fnExactDeltasOfUptoCard

/-- THE SECOND FORM's CARD OF 'laws.FnExactChangesOf'. -/
def fnExactChangesOfUptoCard : Claim7 := { stood := { row := fnExactChangesOfUptoRow, standIns := [], harness := (true, "001d34b7aec308dcef4c7728d318b9c057d12c568093e701e923a1a9f8caf6e5"), looks := false }, kinds := [], alts := [], laidByText := true, laidKinds := [.data, .data], laidTests := true, laidLooks := .later }
def FnExactChangesOfUptoCardSaid : Prop := Claim7.holds Tryd.pinned (.plain (OpenSpec.upto fnExactChangesOfSpec)) fnExactChangesOfUptoCard

/-- THE SECOND FORM's CARD OF 'laws.FnExactIsCode'. -/
def fnExactIsCodeUptoCard : Claim7 := { stood := { row := fnExactIsCodeUptoRow, standIns := [], harness := (true, "001d34b7aec308dcef4c7728d318b9c057d12c568093e701e923a1a9f8caf6e5"), looks := false }, kinds := [], alts := [], laidByText := true, laidKinds := [.data, .data], laidTests := true, laidLooks := .later }
def FnExactIsCodeUptoCardSaid : Prop := Claim7.holds Tryd.pinned (.plain (OpenSpec.upto fnExactIsCodeSpec)) fnExactIsCodeUptoCard

/-- THE SECOND FORM's CARD OF 'laws.FnExactIsRoundCode'. -/
def fnExactIsRoundCodeUptoCard : Claim7 := { stood := { row := fnExactIsRoundCodeUptoRow, standIns := [], harness := (true, "001d34b7aec308dcef4c7728d318b9c057d12c568093e701e923a1a9f8caf6e5"), looks := false }, kinds := [], alts := [], laidByText := true, laidKinds := [.data, .data], laidTests := true, laidLooks := .later }
def FnExactIsRoundCodeUptoCardSaid : Prop := Claim7.holds Tryd.pinned (.plain (OpenSpec.upto fnExactIsRoundCodeSpec)) fnExactIsRoundCodeUptoCard

/-- THE SECOND FORM's CARD OF 'laws.FnExactIsEvenlyChanged'. -/
def fnExactIsEvenlyChangedUptoCard : Claim7 := { stood := { row := fnExactIsEvenlyChangedUptoRow, standIns := [], harness := (true, "001d34b7aec308dcef4c7728d318b9c057d12c568093e701e923a1a9f8caf6e5"), looks := false }, kinds := [], alts := [], laidByText := true, laidKinds := [.data, .data], laidTests := true, laidLooks := .later }
def FnExactIsEvenlyChangedUptoCardSaid : Prop := Claim7.holds Tryd.pinned (.plain (OpenSpec.upto fnExactIsEvenlyChangedSpec)) fnExactIsEvenlyChangedUptoCard

/-- THE SECOND FORM's CARD OF 'laws.FnExactLeastRun'. -/
def fnExactLeastRunUptoCard : Claim7 := { stood := { row := fnExactLeastRunUptoRow, standIns := [], harness := (true, "001d34b7aec308dcef4c7728d318b9c057d12c568093e701e923a1a9f8caf6e5"), looks := false }, kinds := [], alts := [], laidByText := true, laidKinds := [.data, .data], laidTests := true, laidLooks := .later }
def FnExactLeastRunUptoCardSaid : Prop := Claim7.holds Tryd.pinned (.plain (OpenSpec.upto fnExactLeastRunSpec)) fnExactLeastRunUptoCard

/-- THE SECOND FORM's CARD OF 'laws.FnExactNextReflected'. -/
def fnExactNextReflectedUptoCard : Claim7 := { stood := { row := fnExactNextReflectedUptoRow, standIns := [], harness := (true, "001d34b7aec308dcef4c7728d318b9c057d12c568093e701e923a1a9f8caf6e5"), looks := false }, kinds := [], alts := [], laidByText := true, laidKinds := [.data, .data], laidTests := true, laidLooks := .later }
def FnExactNextReflectedUptoCardSaid : Prop := Claim7.holds Tryd.pinned (.plain (OpenSpec.upto fnExactNextReflectedSpec)) fnExactNextReflectedUptoCard
end Rows
end Go.Proofs.YteejdagnlepegaaDoor
