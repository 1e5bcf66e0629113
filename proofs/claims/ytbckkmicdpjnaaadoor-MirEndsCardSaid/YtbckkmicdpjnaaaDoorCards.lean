/-
  DERIVED. GIVEN WITH THE SEED: THE CARDS: each row of YtbckkmicdpjnaaaDoorRows.lean that lists a variable, with what it lists TIED to the program's text (the seventh form; the later family's looks); each row that meets fmt, with fmt's text TOLD by the authors' own Lean function (tested against real Go, not proved from fmt's source: count such statements apart). THE CARD IS WHAT COUNTS. Prove the row's statement (the work); the ties are given (YtbckkmicdpjnaaaDoorTie.lean); close each card by the builder's one call (the guide's Derived/Test/ToyasCard.lean, 'card_holds'). Laid BY PROGRAM, IN A SANDBOX (cutbox-door.mjs). By AI agents, Wed Nov 11 2026. No macro, syntax, notation, axiom, sorry.
-/
import Derived.Test.YtbckkmicdpjnaaaDoorRows
import GoSem.ClaimSeven
namespace Go.Proofs.YtbckkmicdpjnaaaDoor
namespace Rows

/-- THE TIED CARD OF 'intarsialaw06.MirEnds'. -/
def mirEndsCard : Claim7 := { stood := { row := mirEndsRow, standIns := [], harness := (true, "7d6e1c4118e92afcb5a2ecc71fade18b1e755bcda1b0ad67af5e18af04ac7616"), looks := false }, kinds := [], alts := [], laidByText := true, laidKinds := [.data], laidTests := true, laidLooks := .later }
def MirEndsCardSaid : Prop := Claim7.holds Tryd.pinned (.plain (OpenSpec.ofChange mirEndsSpec)) mirEndsCard

/-- THE SECOND FORM's CARD OF 'intarsialaw06.MirEnds'. -/
def mirEndsUptoCard : Claim7 := { stood := { row := mirEndsUptoRow, standIns := [], harness := (true, "7d6e1c4118e92afcb5a2ecc71fade18b1e755bcda1b0ad67af5e18af04ac7616"), looks := false }, kinds := [], alts := [], laidByText := true, laidKinds := [.data], laidTests := true, laidLooks := .later }
def MirEndsUptoCardSaid : Prop := Claim7.holds Tryd.pinned (.plain (OpenSpec.upto mirEndsSpec)) mirEndsUptoCard
end Rows
end Go.Proofs.YtbckkmicdpjnaaaDoor
