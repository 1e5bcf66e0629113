/-
  DERIVED. GIVEN WITH THE SEED: THE CARDS: each row of YtbjmbahpcoanoaaGreatDoorRows.lean that lists a variable, with what it lists TIED to the program's text (the seventh form; the later family's looks); each row that meets fmt, with fmt's text TOLD by the authors' own Lean function (tested against real Go, not proved from fmt's source: count such statements apart). THE CARD IS WHAT COUNTS. Prove the row's statement (the work); the ties are given (YtbjmbahpcoanoaaGreatDoorTie.lean); close each card by the builder's one call (the guide's Derived/Test/ToyasCard.lean, 'card_holds'). Laid BY PROGRAM, IN A SANDBOX (cutbox-door.mjs). By AI agents, Wed Nov 11 2026. No macro, syntax, notation, axiom, sorry.
-/
import Derived.Test.YtbjmbahpcoanoaaGreatDoorRows
import GoSem.ClaimSeven
namespace Go.Proofs.YtbjmbahpcoanoaaGreatDoor
namespace Rows

/-- THE TIED CARD OF 'intarsialaw07.MreadPrints'. -/
def mreadPrintsCard : Claim7 := { stood := { row := mreadPrintsRow, standIns := [], harness := (true, "43d12fa44e546ee21e2a5d5a80fc8de1e856ce1eebc89c7f7271221d190f280d"), looks := true }, kinds := [], alts := [], laidByText := true, laidKinds := [.data, .data, .data, .sentinel, .sentinel, .data, .data], laidTests := true, laidLooks := .later }
def MreadPrintsCardSaid : Prop := Claim7.holds Tryz.pinned (.plain (OpenSpec.ofChange mreadPrintsSpec)) mreadPrintsCard

/-- THE TIED CARD OF 'intarsialaw07.MreadParses'. -/
def mreadParsesCard : Claim7 := { stood := { row := mreadParsesRow, standIns := [], harness := (true, "43d12fa44e546ee21e2a5d5a80fc8de1e856ce1eebc89c7f7271221d190f280d"), looks := true }, kinds := [], alts := [], laidByText := true, laidKinds := [.data, .data, .data, .sentinel, .sentinel, .data, .data], laidTests := true, laidLooks := .later }
def MreadParsesCardSaid : Prop := Claim7.holds Tryz.pinned (.plain (OpenSpec.ofChange mreadParsesSpec)) mreadParsesCard

/-- THE TIED CARD OF 'intarsialaw07.MreadLines'. -/
def mreadLinesCard : Claim7 := { stood := { row := mreadLinesRow, standIns := [], harness := (true, "43d12fa44e546ee21e2a5d5a80fc8de1e856ce1eebc89c7f7271221d190f280d"), looks := true }, kinds := [], alts := [], laidByText := true, laidKinds := [.data, .data, .data, .sentinel, .sentinel, .data, .data], laidTests := true, laidLooks := .later }
def MreadLinesCardSaid : Prop := Claim7.holds Tryz.pinned (.plain (OpenSpec.ofChange mreadLinesSpec)) mreadLinesCard

/-- THE TIED CARD OF 'intarsialaw07.MreadBack'. -/
def mreadBackCard : Claim7 := { stood := { row := mreadBackRow, standIns := [], harness := (true, "43d12fa44e546ee21e2a5d5a80fc8de1e856ce1eebc89c7f7271221d190f280d"), looks := true }, kinds := [], alts := [], laidByText := true, laidKinds := [.data, .data, .data, .sentinel, .sentinel, .data, .data], laidTests := true, laidLooks := .later }
def MreadBackCardSaid : Prop := Claim7.holds Tryz.pinned (.plain (OpenSpec.ofChange mreadBackSpec)) mreadBackCard

/-- THE TIED CARD OF 'intarsialaw07.MreadUnlike'. -/
def mreadUnlikeCard : Claim7 := { stood := { row := mreadUnlikeRow, standIns := [], harness := (true, "43d12fa44e546ee21e2a5d5a80fc8de1e856ce1eebc89c7f7271221d190f280d"), looks := true }, kinds := [], alts := [], laidByText := true, laidKinds := [.data, .data, .data, .sentinel, .sentinel, .data, .data], laidTests := true, laidLooks := .later }
def MreadUnlikeCardSaid : Prop := Claim7.holds Tryz.pinned (.plain (OpenSpec.ofChange mreadUnlikeSpec)) mreadUnlikeCard

/-- THE SECOND FORM's CARD OF 'intarsialaw07.MreadPrints'. -/
def mreadPrintsUptoCard : Claim7 := { stood := { row := mreadPrintsUptoRow, standIns := [], harness := (true, "43d12fa44e546ee21e2a5d5a80fc8de1e856ce1eebc89c7f7271221d190f280d"), looks := true }, kinds := [], alts := [], laidByText := true, laidKinds := [.data, .data, .data, .sentinel, .sentinel, .data, .data], laidTests := true, laidLooks := .later }
def MreadPrintsUptoCardSaid : Prop := Claim7.holds Tryz.pinned (.plain (OpenSpec.upto mreadPrintsSpec)) mreadPrintsUptoCard

/-- THE SECOND FORM's CARD OF 'intarsialaw07.MreadParses'. -/
def mreadParsesUptoCard : Claim7 := { stood := { row := mreadParsesUptoRow, standIns := [], harness := (true, "43d12fa44e546ee21e2a5d5a80fc8de1e856ce1eebc89c7f7271221d190f280d"), looks := true }, kinds := [], alts := [], laidByText := true, laidKinds := [.data, .data, .data, .sentinel, .sentinel, .data, .data], laidTests := true, laidLooks := .later }
def MreadParsesUptoCardSaid : Prop := Claim7.holds Tryz.pinned (.plain (OpenSpec.upto mreadParsesSpec)) mreadParsesUptoCard

/-- THE SECOND FORM's CARD OF 'intarsialaw07.MreadLines'. -/
def mreadLinesUptoCard : Claim7 := { stood := { row := mreadLinesUptoRow, standIns := [], harness := (true, "43d12fa44e546ee21e2a5d5a80fc8de1e856ce1eebc89c7f7271221d190f280d"), looks := true }, kinds := [], alts := [], laidByText := true, laidKinds := [.data, .data, .data, .sentinel, .sentinel, .data, .data], laidTests := true, laidLooks := .later }
def MreadLinesUptoCardSaid : Prop := Claim7.holds Tryz.pinned (.plain (OpenSpec.upto mreadLinesSpec)) mreadLinesUptoCard

/-- THE SECOND FORM's CARD OF 'intarsialaw07.MreadBack'. -/
def mreadBackUptoCard : Claim7 := { stood := { row := mreadBackUptoRow, standIns := [], harness := (true, "43d12fa44e546ee21e2a5d5a80fc8de1e856ce1eebc89c7f7271221d190f280d"), looks := true }, kinds := [], alts := [], laidByText := true, laidKinds := [.data, .data, .data, .sentinel, .sentinel, .data, .data], laidTests := true, laidLooks := .later }
def MreadBackUptoCardSaid : Prop := Claim7.holds Tryz.pinned (.plain (OpenSpec.upto mreadBackSpec)) mreadBackUptoCard

/-- THE SECOND FORM's CARD OF 'intarsialaw07.MreadUnlike'. -/
def mreadUnlikeUptoCard : Claim7 := { stood := { row := mreadUnlikeUptoRow, standIns := [], harness := (true, "43d12fa44e546ee21e2a5d5a80fc8de1e856ce1eebc89c7f7271221d190f280d"), looks := true }, kinds := [], alts := [], laidByText := true, laidKinds := [.data, .data, .data, .sentinel, .sentinel, .data, .data], laidTests := true, laidLooks := .later }
def MreadUnlikeUptoCardSaid : Prop := Claim7.holds Tryz.pinned (.plain (OpenSpec.upto mreadUnlikeSpec)) mreadUnlikeUptoCard
end Rows
end Go.Proofs.YtbjmbahpcoanoaaGreatDoor
