/-
  DERIVED. GIVEN WITH THE SEED: THE CARDS: each row of YtcmomghlepmogabDoorRows.lean that lists a variable, with what it lists TIED to the program's text (the seventh form; the later family's looks); each row that meets fmt, with fmt's text TOLD by the authors' own Lean function (tested against real Go, not proved from fmt's source: count such statements apart). THE CARD IS WHAT COUNTS. Prove the row's statement (the work); the ties are given (YtcmomghlepmogabDoorTie.lean); close each card by the builder's one call (the guide's Derived/Test/ToyasCard.lean, 'card_holds'). Laid BY PROGRAM, IN A SANDBOX (cutbox-door.mjs). By AI agents, Wed Nov 11 2026. No macro, syntax, notation, axiom, sorry.
-/
import Derived.Test.YtcmomghlepmogabDoorRows
import GoSem.ClaimSeven
namespace Go.Proofs.YtcmomghlepmogabDoor
namespace Rows

/-- THE TIED CARD OF 'laws.FnTouchOk'. -/
def fnTouchOkCard : Claim7 := { stood := { row := fnTouchOkRow, standIns := [], harness := (true, "118fe80b50c1ffffcafe886ca213a03b5045e6188bc644122aab10b2ab8eeb97"), looks := false }, kinds := [], alts := [], laidByText := true, laidKinds := [.data], laidTests := true, laidLooks := .later }
def FnTouchOkCardSaid : Prop := Claim7.holds Tryd.pinned (.plain (OpenSpec.ofChange fnTouchOkSpec)) fnTouchOkCard

/-- THE TIED CARD OF 'laws.FnDarkOk'. -/
def fnDarkOkCard : Claim7 := { stood := { row := fnDarkOkRow, standIns := [], harness := (true, "118fe80b50c1ffffcafe886ca213a03b5045e6188bc644122aab10b2ab8eeb97"), looks := false }, kinds := [], alts := [], laidByText := true, laidKinds := [.data, .data, .data], laidTests := true, laidLooks := .later }
def FnDarkOkCardSaid : Prop := Claim7.holds Tryd.pinned (.plain (OpenSpec.ofChange fnDarkOkSpec)) fnDarkOkCard

/-- THE TIED CARD OF 'laws.FnLightOk'. -/
def fnLightOkCard : Claim7 := { stood := { row := fnLightOkRow, standIns := [], harness := (true, "118fe80b50c1ffffcafe886ca213a03b5045e6188bc644122aab10b2ab8eeb97"), looks := false }, kinds := [], alts := [], laidByText := true, laidKinds := [.data, .data, .data], laidTests := true, laidLooks := .later }
def FnLightOkCardSaid : Prop := Claim7.holds Tryd.pinned (.plain (OpenSpec.ofChange fnLightOkSpec)) fnLightOkCard

/-- THE TIED CARD OF 'laws.FnCountDark'. -/
def fnCountDarkCard : Claim7 := { stood := { row := fnCountDarkRow, standIns := [], harness := (true, "118fe80b50c1ffffcafe886ca213a03b5045e6188bc644122aab10b2ab8eeb97"), looks := false }, kinds := [], alts := [], laidByText := true, laidKinds := [.data, .data, .data], laidTests := true, laidLooks := .later }
def FnCountDarkCardSaid : Prop := Claim7.holds Tryd.pinned (.plain (OpenSpec.ofChange fnCountDarkSpec)) fnCountDarkCard

/-- THE TIED CARD OF 'laws.FnExactTouchOk'. -/
def fnExactTouchOkCard : Claim7 := { stood := { row := fnExactTouchOkRow, standIns := [], harness := (true, "118fe80b50c1ffffcafe886ca213a03b5045e6188bc644122aab10b2ab8eeb97"), looks := false }, kinds := [], alts := [], laidByText := true, laidKinds := [.data], laidTests := true, laidLooks := .later }
def FnExactTouchOkCardSaid : Prop := Claim7.holds Tryd.pinned (.plain (OpenSpec.ofChange fnExactTouchOkSpec)) fnExactTouchOkCard

/-- THE TIED CARD OF 'laws.FnExactDarkOk'. -/
def fnExactDarkOkCard : Claim7 := { stood := { row := fnExactDarkOkRow, standIns := [], harness := (true, "118fe80b50c1ffffcafe886ca213a03b5045e6188bc644122aab10b2ab8eeb97"), looks := false }, kinds := [], alts := [], laidByText := true, laidKinds := [.data, .data, .data], laidTests := true, laidLooks := .later }
def FnExactDarkOkCardSaid : Prop := Claim7.holds Tryd.pinned (.plain (OpenSpec.ofChange fnExactDarkOkSpec)) fnExactDarkOkCard

/-- THE TIED CARD OF 'laws.FnExactLightOk'. -/
def fnExactLightOkCard : Claim7 := { stood := { row := fnExactLightOkRow, standIns := [], harness := (true, "118fe80b50c1ffffcafe886ca213a03b5045e6188bc644122aab10b2ab8eeb97"), looks := false }, kinds := [], alts := [], laidByText := true, laidKinds := [.data, .data, .data], laidTests := true, laidLooks := .later }
def FnExactLightOkCardSaid : Prop := Claim7.holds Tryd.pinned (.plain (OpenSpec.ofChange fnExactLightOkSpec)) fnExactLightOkCard

/-- THE TIED CARD OF 'laws.FnExactCountDark'. -/
def fnExactCountDarkCard : Claim7 := { stood := { row := fnExactCountDarkRow, standIns := [], harness := (true, "118fe80b50c1ffffcafe886ca213a03b5045e6188bc644122aab10b2ab8eeb97"), looks := false }, kinds := [], alts := [], laidByText := true, laidKinds := [.data, .data, .data], laidTests := true, laidLooks := .later }
def FnExactCountDarkCardSaid : Prop := Claim7.holds Tryd.pinned (.plain (OpenSpec.ofChange fnExactCountDarkSpec)) fnExactCountDarkCard

/-- THE SECOND FORM's CARD OF 'laws.FnTouchOk'. -/
def fnTouchOkUptoCard : Claim7 := { stood := { row := fnTouchOkUptoRow, standIns := [], harness := (true, "118fe80b50c1ffffcafe886ca213a03b5045e6188bc644122aab10b2ab8eeb97"), looks := false }, kinds := [], alts := [], laidByText := true, laidKinds := [.data], laidTests := true, laidLooks := .later }
def FnTouchOkUptoCardSaid : Prop := Claim7.holds Tryd.pinned (.plain (OpenSpec.upto fnTouchOkSpec)) fnTouchOkUptoCard

/-- THE SECOND FORM's CARD OF 'laws.FnDarkOk'. -/
def fnDarkOkUptoCard : Claim7 := { stood := { row := fnDarkOkUptoRow, standIns := [], harness := (true, "118fe80b50c1ffffcafe886ca213a03b5045e6188bc644122aab10b2ab8eeb97"), looks := false }, kinds := [], alts := [], laidByText := true, laidKinds := [.data, .data, .data], laidTests := true, laidLooks := .later }
def FnDarkOkUptoCardSaid : Prop := Claim7.holds Tryd.pinned (.plain (OpenSpec.upto fnDarkOkSpec)) fnDarkOkUptoCard

/-- THE SECOND FORM's CARD OF 'laws.FnLightOk'. -/
def fnLightOkUptoCard : Claim7 := { stood := { row := fnLightOkUptoRow, standIns := [], harness := (true, "118fe80b50c1ffffcafe886ca213a03b5045e6188bc644122aab10b2ab8eeb97"), looks := false }, kinds := [], alts := [], laidByText := true, laidKinds := [.data, .data, .data], laidTests := true, laidLooks := .later }
def FnLightOkUptoCardSaid : Prop := Claim7.holds Tryd.pinned (.plain (OpenSpec.upto fnLightOkSpec)) fnLightOkUptoCard

/-- THE SECOND FORM's CARD OF 'laws.FnCountDark'. -/
def fnCountDarkUptoCard : Claim7 := { stood := { row := fnCountDarkUptoRow, standIns := [], harness := (true, "118fe80b50c1ffffcafe886ca213a03b5045e6188bc644122aab10b2ab8eeb97"), looks := false }, kinds := [], alts := [], laidByText := true, laidKinds := [.data, .data, .data], laidTests := true, laidLooks := .later }
def FnCountDarkUptoCardSaid : Prop := Claim7.holds Tryd.pinned (.plain (OpenSpec.upto fnCountDarkSpec)) fnCountDarkUptoCard

/-- THE SECOND FORM's CARD OF 'laws.FnExactTouchOk'. -/
def fnExactTouchOkUptoCard : Claim7 := { stood := { row := fnExactTouchOkUptoRow, standIns := [], harness := (true, "118fe80b50c1ffffcafe886ca213a03b5045e6188bc644122aab10b2ab8eeb97"), looks := false }, kinds := [], alts := [], laidByText := true, laidKinds := [.data], laidTests := true, laidLooks := .later }
def FnExactTouchOkUptoCardSaid : Prop := Claim7.holds Tryd.pinned (.plain (OpenSpec.upto fnExactTouchOkSpec)) fnExactTouchOkUptoCard

/-- THE SECOND FORM's CARD OF 'laws.FnExactDarkOk'. -/
def fnExactDarkOkUptoCard : Claim7 := { stood := { row := fnExactDarkOkUptoRow, standIns := [], harness := (true, "118fe80b50c1ffffcafe886ca213a03b5045e6188bc644122aab10b2ab8eeb97"), looks := false }, kinds := [], alts := [], laidByText := true, laidKinds := [.data, .data, .data], laidTests := true, laidLooks := .later }
def FnExactDarkOkUptoCardSaid : Prop := Claim7.holds Tryd.pinned (.plain (OpenSpec.upto fnExactDarkOkSpec)) fnExactDarkOkUptoCard

/-- THE SECOND FORM's CARD OF 'laws.FnExactLightOk'. -/
def fnExactLightOkUptoCard : Claim7 := { stood := { row := fnExactLightOkUptoRow, standIns := [], harness := (true, "118fe80b50c1ffffcafe886ca213a03b5045e6188bc644122aab10b2ab8eeb97"), looks := false }, kinds := [], alts := [], laidByText := true, laidKinds := [.data, .data, .data], laidTests := true, laidLooks := .later }
def FnExactLightOkUptoCardSaid : Prop := Claim7.holds Tryd.pinned (.plain (OpenSpec.upto fnExactLightOkSpec)) fnExactLightOkUptoCard

/-- THE SECOND FORM's CARD OF 'laws.FnExactCountDark'. -/
def fnExactCountDarkUptoCard : Claim7 := { stood := { row := fnExactCountDarkUptoRow, standIns := [], harness := (true, "118fe80b50c1ffffcafe886ca213a03b5045e6188bc644122aab10b2ab8eeb97"), looks := false }, kinds := [], alts := [], laidByText := true, laidKinds := [.data, .data, .data], laidTests := true, laidLooks := .later }
def FnExactCountDarkUptoCardSaid : Prop := Claim7.holds Tryd.pinned (.plain (OpenSpec.upto fnExactCountDarkSpec)) fnExactCountDarkUptoCard
end Rows
end Go.Proofs.YtcmomghlepmogabDoor
