/-
  DERIVED. GIVEN WITH THE SEED: THE CARDS: each row of YtjahchoaaggkiaaDoorRows.lean that lists a variable, with what it lists TIED to the program's text (the seventh form; the later family's looks); each row that meets fmt, with fmt's text TOLD by the authors' own Lean function (tested against real Go, not proved from fmt's source: count such statements apart). THE CARD IS WHAT COUNTS. Prove the row's statement (the work); the ties are given (YtjahchoaaggkiaaDoorTie.lean); close each card by the builder's one call (the guide's Derived/Test/ToyasCard.lean, 'card_holds'). Laid BY PROGRAM, IN A SANDBOX (cutbox-door.mjs). By AI agents, Wed Nov 11 2026. No macro, syntax, notation, axiom, sorry.
-/
import Derived.Test.YtjahchoaaggkiaaDoorRows
import GoSem.ClaimSeven
namespace Go.Proofs.YtjahchoaaggkiaaDoor
namespace Rows

/-- THE TIED CARD OF 'intarsialaw06.MirParts'. -/
def mirPartsCard : Claim7 := { stood := { row := mirPartsRow, standIns := [], harness := (true, "efc24d1f2a8523840ef487b471f676b99931bc707c570314df111acdaca8a2b1"), looks := false }, kinds := [], alts := [], laidByText := true, laidKinds := [.data], laidTests := true, laidLooks := .later }
def MirPartsCardSaid : Prop := Claim7.holds Tryd.pinned (.plain (OpenSpec.ofChange mirPartsSpec)) mirPartsCard

/-- THE TIED CARD OF 'intarsialaw06.MirTells'. -/
def mirTellsCard : Claim7 := { stood := { row := mirTellsRow, standIns := [], harness := (true, "efc24d1f2a8523840ef487b471f676b99931bc707c570314df111acdaca8a2b1"), looks := false }, kinds := [], alts := [], laidByText := true, laidKinds := [.data], laidTests := true, laidLooks := .later }
def MirTellsCardSaid : Prop := Claim7.holds Tryd.pinned (.plain (OpenSpec.ofChange mirTellsSpec)) mirTellsCard

/-- THE TIED CARD OF 'intarsialaw06.MirEnds'. -/
def mirEndsCard : Claim7 := { stood := { row := mirEndsRow, standIns := [], harness := (true, "efc24d1f2a8523840ef487b471f676b99931bc707c570314df111acdaca8a2b1"), looks := false }, kinds := [], alts := [], laidByText := true, laidKinds := [.data], laidTests := true, laidLooks := .later }
def MirEndsCardSaid : Prop := Claim7.holds Tryd.pinned (.plain (OpenSpec.ofChange mirEndsSpec)) mirEndsCard

/-- THE TIED CARD OF 'intarsialaw06.MirPlaces'. -/
def mirPlacesCard : Claim7 := { stood := { row := mirPlacesRow, standIns := [], harness := (true, "efc24d1f2a8523840ef487b471f676b99931bc707c570314df111acdaca8a2b1"), looks := false }, kinds := [], alts := [], laidByText := true, laidKinds := [.data], laidTests := true, laidLooks := .later }
def MirPlacesCardSaid : Prop := Claim7.holds Tryd.pinned (.plain (OpenSpec.ofChange mirPlacesSpec)) mirPlacesCard

/-- THE TIED CARD OF 'intarsialaw06.MirWider'. -/
def mirWiderCard : Claim7 := { stood := { row := mirWiderRow, standIns := [], harness := (true, "efc24d1f2a8523840ef487b471f676b99931bc707c570314df111acdaca8a2b1"), looks := false }, kinds := [], alts := [], laidByText := true, laidKinds := [.data], laidTests := true, laidLooks := .later }
def MirWiderCardSaid : Prop := Claim7.holds Tryd.pinned (.plain (OpenSpec.ofChange mirWiderSpec)) mirWiderCard

/-- THE SECOND FORM's CARD OF 'intarsialaw06.MirParts'. -/
def mirPartsUptoCard : Claim7 := { stood := { row := mirPartsUptoRow, standIns := [], harness := (true, "efc24d1f2a8523840ef487b471f676b99931bc707c570314df111acdaca8a2b1"), looks := false }, kinds := [], alts := [], laidByText := true, laidKinds := [.data], laidTests := true, laidLooks := .later }
def MirPartsUptoCardSaid : Prop := Claim7.holds Tryd.pinned (.plain (OpenSpec.upto mirPartsSpec)) mirPartsUptoCard

/-- THE SECOND FORM's CARD OF 'intarsialaw06.MirTells'. -/
def mirTellsUptoCard : Claim7 := { stood := { row := mirTellsUptoRow, standIns := [], harness := (true, "efc24d1f2a8523840ef487b471f676b99931bc707c570314df111acdaca8a2b1"), looks := false }, kinds := [], alts := [], laidByText := true, laidKinds := [.data], laidTests := true, laidLooks := .later }
def MirTellsUptoCardSaid : Prop := Claim7.holds Tryd.pinned (.plain (OpenSpec.upto mirTellsSpec)) mirTellsUptoCard

/-- THE SECOND FORM's CARD OF 'intarsialaw06.MirEnds'. -/
def mirEndsUptoCard : Claim7 := { stood := { row := mirEndsUptoRow, standIns := [], harness := (true, "efc24d1f2a8523840ef487b471f676b99931bc707c570314df111acdaca8a2b1"), looks := false }, kinds := [], alts := [], laidByText := true, laidKinds := [.data], laidTests := true, laidLooks := .later }
def MirEndsUptoCardSaid : Prop := Claim7.holds Tryd.pinned (.plain (OpenSpec.upto mirEndsSpec)) mirEndsUptoCard

/-- THE SECOND FORM's CARD OF 'intarsialaw06.MirPlaces'. -/
def mirPlacesUptoCard : Claim7 := { stood := { row := mirPlacesUptoRow, standIns := [], harness := (true, "efc24d1f2a8523840ef487b471f676b99931bc707c570314df111acdaca8a2b1"), looks := false }, kinds := [], alts := [], laidByText := true, laidKinds := [.data], laidTests := true, laidLooks := .later }
def MirPlacesUptoCardSaid : Prop := Claim7.holds Tryd.pinned (.plain (OpenSpec.upto mirPlacesSpec)) mirPlacesUptoCard

/-- THE SECOND FORM's CARD OF 'intarsialaw06.MirWider'. -/
def mirWiderUptoCard : Claim7 := { stood := { row := mirWiderUptoRow, standIns := [], harness := (true, "efc24d1f2a8523840ef487b471f676b99931bc707c570314df111acdaca8a2b1"), looks := false }, kinds := [], alts := [], laidByText := true, laidKinds := [.data], laidTests := true, laidLooks := .later }
def MirWiderUptoCardSaid : Prop := Claim7.holds Tryd.pinned (.plain (OpenSpec.upto mirWiderSpec)) mirWiderUptoCard
end Rows
end Go.Proofs.YtjahchoaaggkiaaDoor
