/-
  DERIVED. GIVEN WITH THE SEED: THE CARDS: each row of YtkfplffcegbdfaaGreatDoorRows.lean that lists a variable, with what it lists TIED to the program's text (the seventh form; the later family's looks); each row that meets fmt, with fmt's text TOLD by the authors' own Lean function (tested against real Go, not proved from fmt's source: count such statements apart). THE CARD IS WHAT COUNTS. Prove the row's statement (the work); the ties are given (YtkfplffcegbdfaaGreatDoorTie.lean); close each card by the builder's one call (the guide's Derived/Test/ToyasCard.lean, 'card_holds'). Laid BY PROGRAM, IN A SANDBOX (cutbox-door.mjs). By AI agents, Wed Nov 11 2026. No macro, syntax, notation, axiom, sorry.
-/
import Derived.Test.YtkfplffcegbdfaaGreatDoorRows
import GoSem.ClaimSeven
namespace Go.Proofs.YtkfplffcegbdfaaGreatDoor
namespace Rows

/-- THE TIED CARD OF 'intarsialaw05.MachTells'. -/
def machTellsCard : Claim7 := { stood := { row := machTellsRow, standIns := [], harness := (true, "7e63809b281d778a9f5753e878d6d4df11c4745ecd2f2fddd010df113caffe96"), looks := true }, kinds := [], alts := [], laidByText := true, laidKinds := [.data, .data, .data], laidTests := true, laidLooks := .later }
def MachTellsCardSaid : Prop := Claim7.holds Tryz.pinned (.plain (OpenSpec.ofChange machTellsSpec)) machTellsCard

/-- THE TIED CARD OF 'intarsialaw05.MachEnds'. -/
def machEndsCard : Claim7 := { stood := { row := machEndsRow, standIns := [], harness := (true, "7e63809b281d778a9f5753e878d6d4df11c4745ecd2f2fddd010df113caffe96"), looks := true }, kinds := [], alts := [], laidByText := true, laidKinds := [.data, .data, .data], laidTests := true, laidLooks := .later }
def MachEndsCardSaid : Prop := Claim7.holds Tryz.pinned (.plain (OpenSpec.ofChange machEndsSpec)) machEndsCard

/-- THE SECOND FORM's CARD OF 'intarsialaw05.MachTells'. -/
def machTellsUptoCard : Claim7 := { stood := { row := machTellsUptoRow, standIns := [], harness := (true, "7e63809b281d778a9f5753e878d6d4df11c4745ecd2f2fddd010df113caffe96"), looks := true }, kinds := [], alts := [], laidByText := true, laidKinds := [.data, .data, .data], laidTests := true, laidLooks := .later }
def MachTellsUptoCardSaid : Prop := Claim7.holds Tryz.pinned (.plain (OpenSpec.upto machTellsSpec)) machTellsUptoCard

/-- THE SECOND FORM's CARD OF 'intarsialaw05.MachEnds'. -/
def machEndsUptoCard : Claim7 := { stood := { row := machEndsUptoRow, standIns := [], harness := (true, "7e63809b281d778a9f5753e878d6d4df11c4745ecd2f2fddd010df113caffe96"), looks := true }, kinds := [], alts := [], laidByText := true, laidKinds := [.data, .data, .data], laidTests := true, laidLooks := .later }
def MachEndsUptoCardSaid : Prop := Claim7.holds Tryz.pinned (.plain (OpenSpec.upto machEndsSpec)) machEndsUptoCard
end Rows
end Go.Proofs.YtkfplffcegbdfaaGreatDoor
