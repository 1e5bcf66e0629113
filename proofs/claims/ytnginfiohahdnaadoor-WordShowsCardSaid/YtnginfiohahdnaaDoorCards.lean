/-
  DERIVED. GIVEN WITH THE SEED: THE CARDS: each row of YtnginfiohahdnaaDoorRows.lean that lists a variable, with what it lists TIED to the program's text (the seventh form; the later family's looks); each row that meets fmt, with fmt's text TOLD by the authors' own Lean function (tested against real Go, not proved from fmt's source: count such statements apart). THE CARD IS WHAT COUNTS. Prove the row's statement (the work); the ties are given (YtnginfiohahdnaaDoorTie.lean); close each card by the builder's one call (the guide's Derived/Test/ToyasCard.lean, 'card_holds'). Laid BY PROGRAM, IN A SANDBOX (cutbox-door.mjs). By AI agents, Wed Nov 11 2026. No macro, syntax, notation, axiom, sorry.
-/
import Derived.Test.YtnginfiohahdnaaDoorRows
import GoSem.ClaimSeven
namespace Go.Proofs.YtnginfiohahdnaaDoor
namespace Rows

/-- THE TIED CARD OF 'intarsialaw01.WordShows'. -/
def wordShowsCard : Claim7 := { stood := { row := wordShowsRow, standIns := [], harness := (true, "dc013da433c405e659b991c44001ab2df22f097504aaa2fcb84bd776625a04ba"), looks := false }, kinds := [], alts := [], laidByText := true, laidKinds := [.data, .data, .data, .data, .pinned], laidTests := true, laidLooks := .later }
def WordShowsCardSaid : Prop := Claim7.holds Tryd.pinned (.plain (OpenSpec.ofChange wordShowsSpec)) wordShowsCard

/-- THE TIED CARD OF 'intarsialaw01.WordBack'. -/
def wordBackCard : Claim7 := { stood := { row := wordBackRow, standIns := [], harness := (true, "dc013da433c405e659b991c44001ab2df22f097504aaa2fcb84bd776625a04ba"), looks := false }, kinds := [], alts := [], laidByText := true, laidKinds := [.data, .data, .data, .data, .pinned], laidTests := true, laidLooks := .later }
def WordBackCardSaid : Prop := Claim7.holds Tryd.pinned (.plain (OpenSpec.ofChange wordBackSpec)) wordBackCard

/-- THE SECOND FORM's CARD OF 'intarsialaw01.WordShows'. -/
def wordShowsUptoCard : Claim7 := { stood := { row := wordShowsUptoRow, standIns := [], harness := (true, "dc013da433c405e659b991c44001ab2df22f097504aaa2fcb84bd776625a04ba"), looks := false }, kinds := [], alts := [], laidByText := true, laidKinds := [.data, .data, .data, .data, .pinned], laidTests := true, laidLooks := .later }
def WordShowsUptoCardSaid : Prop := Claim7.holds Tryd.pinned (.plain (OpenSpec.upto wordShowsSpec)) wordShowsUptoCard

/-- THE SECOND FORM's CARD OF 'intarsialaw01.WordBack'. -/
def wordBackUptoCard : Claim7 := { stood := { row := wordBackUptoRow, standIns := [], harness := (true, "dc013da433c405e659b991c44001ab2df22f097504aaa2fcb84bd776625a04ba"), looks := false }, kinds := [], alts := [], laidByText := true, laidKinds := [.data, .data, .data, .data, .pinned], laidTests := true, laidLooks := .later }
def WordBackUptoCardSaid : Prop := Claim7.holds Tryd.pinned (.plain (OpenSpec.upto wordBackSpec)) wordBackUptoCard
end Rows
end Go.Proofs.YtnginfiohahdnaaDoor
