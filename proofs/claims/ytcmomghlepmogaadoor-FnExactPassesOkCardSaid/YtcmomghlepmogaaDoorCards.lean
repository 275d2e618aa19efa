/-
  DERIVED. GIVEN WITH THE SEED: THE CARDS: each row of YtcmomghlepmogaaDoorRows.lean that lists a variable, with what it lists TIED to the program's text (the seventh form; the later family's looks); each row that meets fmt, with fmt's text TOLD by the authors' own Lean function (tested against real Go, not proved from fmt's source: count such statements apart). THE CARD IS WHAT COUNTS. Prove the row's statement (the work); the ties are given (YtcmomghlepmogaaDoorTie.lean); close each card by the builder's one call (the guide's Derived/Test/ToyasCard.lean, 'card_holds'). Laid BY PROGRAM, IN A SANDBOX (cutbox-door.mjs). By AI agents, Wed Nov 11 2026. No macro, syntax, notation, axiom, sorry.
-/
import Derived.Test.YtcmomghlepmogaaDoorRows
import GoSem.ClaimSeven
namespace Go.Proofs.YtcmomghlepmogaaDoor
namespace Rows

/-- THE TIED CARD OF 'laws.FnLeadsOk'. -/
def fnLeadsOkCard : Claim7 := { stood := { row := fnLeadsOkRow, standIns := [], harness := (true, "9fa68d05e6c2f58469d0ef992b6c62de6a714a7d1c66feb3374374a6cced1ac5"), looks := false }, kinds := [], alts := [], laidByText := true, laidKinds := [.data, .data, .data], laidTests := true, laidLooks := .later }
def FnLeadsOkCardSaid : Prop := Claim7.holds Tryd.pinned (.plain (OpenSpec.ofChange fnLeadsOkSpec)) fnLeadsOkCard

/-- THE TIED CARD OF 'laws.FnPassesOk'. -/
def fnPassesOkCard : Claim7 := { stood := { row := fnPassesOkRow, standIns := [], harness := (true, "9fa68d05e6c2f58469d0ef992b6c62de6a714a7d1c66feb3374374a6cced1ac5"), looks := false }, kinds := [], alts := [], laidByText := true, laidKinds := [.data, .data, .data], laidTests := true, laidLooks := .later }
def FnPassesOkCardSaid : Prop := Claim7.holds Tryd.pinned (.plain (OpenSpec.ofChange fnPassesOkSpec)) fnPassesOkCard

/-- THE TIED CARD OF 'laws.FnCountLeads'. -/
def fnCountLeadsCard : Claim7 := { stood := { row := fnCountLeadsRow, standIns := [], harness := (true, "9fa68d05e6c2f58469d0ef992b6c62de6a714a7d1c66feb3374374a6cced1ac5"), looks := false }, kinds := [], alts := [], laidByText := true, laidKinds := [.data, .data, .data], laidTests := true, laidLooks := .later }
def FnCountLeadsCardSaid : Prop := Claim7.holds Tryd.pinned (.plain (OpenSpec.ofChange fnCountLeadsSpec)) fnCountLeadsCard

/-- THE TIED CARD OF 'laws.FnExactLeadsOk'. -/
def fnExactLeadsOkCard : Claim7 := { stood := { row := fnExactLeadsOkRow, standIns := [], harness := (true, "9fa68d05e6c2f58469d0ef992b6c62de6a714a7d1c66feb3374374a6cced1ac5"), looks := false }, kinds := [], alts := [], laidByText := true, laidKinds := [.data, .data, .data], laidTests := true, laidLooks := .later }
def FnExactLeadsOkCardSaid : Prop := Claim7.holds Tryd.pinned (.plain (OpenSpec.ofChange fnExactLeadsOkSpec)) fnExactLeadsOkCard

/-- THE TIED CARD OF 'laws.FnExactPassesOk'. -/
def fnExactPassesOkCard : Claim7 := { stood := { row := fnExactPassesOkRow, standIns := [], harness := (true, "9fa68d05e6c2f58469d0ef992b6c62de6a714a7d1c66feb3374374a6cced1ac5"), looks := false }, kinds := [], alts := [], laidByText := true, laidKinds := [.data, .data, .data], laidTests := true, laidLooks := .later }
def FnExactPassesOkCardSaid : Prop := Claim7.holds Tryd.pinned (.plain (OpenSpec.ofChange fnExactPassesOkSpec)) fnExactPassesOkCard

/-- THE TIED CARD OF 'laws.FnExactCountLeads'. -/
def fnExactCountLeadsCard : Claim7 := { stood := { row := fnExactCountLeadsRow, standIns := [], harness := (true, "9fa68d05e6c2f58469d0ef992b6c62de6a714a7d1c66feb3374374a6cced1ac5"), looks := false }, kinds := [], alts := [], laidByText := true, laidKinds := [.data, .data, .data], laidTests := true, laidLooks := .later }
def FnExactCountLeadsCardSaid : Prop := Claim7.holds Tryd.pinned (.plain (OpenSpec.ofChange fnExactCountLeadsSpec)) fnExactCountLeadsCard

/-- THE TIED CARD OF 'laws.FnCrossingRows'. -/
def fnCrossingRowsCard : Claim7 := { stood := { row := fnCrossingRowsRow, standIns := [], harness := (true, "9fa68d05e6c2f58469d0ef992b6c62de6a714a7d1c66feb3374374a6cced1ac5"), looks := false }, kinds := [], alts := [], laidByText := true, laidKinds := [.data, .data, .data, .data], laidTests := true, laidLooks := .later }
def FnCrossingRowsCardSaid : Prop := Claim7.holds Tryd.pinned (.plain (OpenSpec.ofChange fnCrossingRowsSpec)) fnCrossingRowsCard

/-- THE SECOND FORM's CARD OF 'laws.FnLeadsOk'. -/
def fnLeadsOkUptoCard : Claim7 := { stood := { row := fnLeadsOkUptoRow, standIns := [], harness := (true, "9fa68d05e6c2f58469d0ef992b6c62de6a714a7d1c66feb3374374a6cced1ac5"), looks := false }, kinds := [], alts := [], laidByText := true, laidKinds := [.data, .data, .data], laidTests := true, laidLooks := .later }
def FnLeadsOkUptoCardSaid : Prop := Claim7.holds Tryd.pinned (.plain (OpenSpec.upto fnLeadsOkSpec)) fnLeadsOkUptoCard

/-- THE SECOND FORM's CARD OF 'laws.FnPassesOk'. -/
def fnPassesOkUptoCard : Claim7 := { stood := { row := fnPassesOkUptoRow, standIns := [], harness := (true, "9fa68d05e6c2f58469d0ef992b6c62de6a714a7d1c66feb3374374a6cced1ac5"), looks := false }, kinds := [], alts := [], laidByText := true, laidKinds := [.data, .data, .data], laidTests := true, laidLooks := .later }
def FnPassesOkUptoCardSaid : Prop := Claim7.holds Tryd.pinned (.plain (OpenSpec.upto fnPassesOkSpec)) fnPassesOkUptoCard

/-- THE SECOND FORM's CARD OF 'laws.FnCountLeads'. -/
def fnCountLeadsUptoCard : Claim7 := { stood := { row := fnCountLeadsUptoRow, standIns := [], harness := (true, "9fa68d05e6c2f58469d0ef992b6c62de6a714a7d1c66feb3374374a6cced1ac5"), looks := false }, kinds := [], alts := [], laidByText := true, laidKinds := [.data, .data, .data], laidTests := true, laidLooks := .later }
def FnCountLeadsUptoCardSaid : Prop := Claim7.holds Tryd.pinned (.plain (OpenSpec.upto fnCountLeadsSpec)) fnCountLeadsUptoCard

/-- THE SECOND FORM's CARD OF 'laws.FnExactLeadsOk'. -/
def fnExactLeadsOkUptoCard : Claim7 := { stood := { row := fnExactLeadsOkUptoRow, standIns := [], harness := (true, "9fa68d05e6c2f58469d0ef992b6c62de6a714a7d1c66feb3374374a6cced1ac5"), looks := false }, kinds := [], alts := [], laidByText := true, laidKinds := [.data, .data, .data], laidTests := true, laidLooks := .later }
def FnExactLeadsOkUptoCardSaid : Prop := Claim7.holds Tryd.pinned (.plain (OpenSpec.upto fnExactLeadsOkSpec)) fnExactLeadsOkUptoCard

/-- THE SECOND FORM's CARD OF 'laws.FnExactPassesOk'. -/
def fnExactPassesOkUptoCard : Claim7 := { stood := { row := fnExactPassesOkUptoRow, standIns := [], harness := (true, "9fa68d05e6c2f58469d0ef992b6c62de6a714a7d1c66feb3374374a6cced1ac5"), looks := false }, kinds := [], alts := [], laidByText := true, laidKinds := [.data, .data, .data], laidTests := true, laidLooks := .later }
def FnExactPassesOkUptoCardSaid : Prop := Claim7.holds Tryd.pinned (.plain (OpenSpec.upto fnExactPassesOkSpec)) fnExactPassesOkUptoCard

/-- THE SECOND FORM's CARD OF 'laws.FnExactCountLeads'. -/
def fnExactCountLeadsUptoCard : Claim7 := { stood := { row := fnExactCountLeadsUptoRow, standIns := [], harness := (true, "9fa68d05e6c2f58469d0ef992b6c62de6a714a7d1c66feb3374374a6cced1ac5"), looks := false }, kinds := [], alts := [], laidByText := true, laidKinds := [.data, .data, .data], laidTests := true, laidLooks := .later }
def FnExactCountLeadsUptoCardSaid : Prop := Claim7.holds Tryd.pinned (.plain (OpenSpec.upto fnExactCountLeadsSpec)) fnExactCountLeadsUptoCard

/-- THE SECOND FORM's CARD OF 'laws.FnCrossingRows'. -/
def fnCrossingRowsUptoCard : Claim7 := { stood := { row := fnCrossingRowsUptoRow, standIns := [], harness := (true, "9fa68d05e6c2f58469d0ef992b6c62de6a714a7d1c66feb3374374a6cced1ac5"), looks := false }, kinds := [], alts := [], laidByText := true, laidKinds := [.data, .data, .data, .data], laidTests := true, laidLooks := .later }
def FnCrossingRowsUptoCardSaid : Prop := Claim7.holds Tryd.pinned (.plain (OpenSpec.upto fnCrossingRowsSpec)) fnCrossingRowsUptoCard
end Rows
end Go.Proofs.YtcmomghlepmogaaDoor
