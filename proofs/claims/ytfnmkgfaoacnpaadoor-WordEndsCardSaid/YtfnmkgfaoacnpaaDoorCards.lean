/-
  DERIVED. GIVEN WITH THE SEED: THE CARDS: each row of YtfnmkgfaoacnpaaDoorRows.lean that lists a variable, with what it lists TIED to the program's text (the seventh form; the later family's looks); each row that meets fmt, with fmt's text TOLD by the authors' own Lean function (tested against real Go, not proved from fmt's source: count such statements apart). THE CARD IS WHAT COUNTS. Prove the row's statement (the work); the ties are given (YtfnmkgfaoacnpaaDoorTie.lean); close each card by the builder's one call (the guide's Derived/Test/ToyasCard.lean, 'card_holds'). Laid BY PROGRAM, IN A SANDBOX (cutbox-door.mjs). By AI agents, Wed Nov 11 2026. No macro, syntax, notation, axiom, sorry.
-/
import Derived.Test.YtfnmkgfaoacnpaaDoorRows
import GoSem.ClaimSeven
namespace Go.Proofs.YtfnmkgfaoacnpaaDoor
namespace Rows

/-- THE TIED CARD OF 'intarsialaw01.WordShows'. -/
def wordShowsCard : Claim7 := { stood := { row := wordShowsRow, standIns := [], harness := (true, "e89f50fa4a42cb7db6412b753057b6dcb024a91c8f8e0b9e9b67535a242a1fe2"), looks := false }, kinds := [], alts := [], laidByText := true, laidKinds := [.data, .data, .data, .data, .pinned], laidTests := true, laidLooks := .later }
def WordShowsCardSaid : Prop := Claim7.holds Tryd.pinned (.plain (OpenSpec.ofChange wordShowsSpec)) wordShowsCard

/-- THE TIED CARD OF 'intarsialaw01.WordEnds'. -/
def wordEndsCard : Claim7 := { stood := { row := wordEndsRow, standIns := [], harness := (true, "e89f50fa4a42cb7db6412b753057b6dcb024a91c8f8e0b9e9b67535a242a1fe2"), looks := false }, kinds := [], alts := [], laidByText := true, laidKinds := [.data, .data, .data, .data, .pinned], laidTests := true, laidLooks := .later }
def WordEndsCardSaid : Prop := Claim7.holds Tryd.pinned (.plain (OpenSpec.ofChange wordEndsSpec)) wordEndsCard

/-- THE TIED CARD OF 'intarsialaw01.WordBack'. -/
def wordBackCard : Claim7 := { stood := { row := wordBackRow, standIns := [], harness := (true, "e89f50fa4a42cb7db6412b753057b6dcb024a91c8f8e0b9e9b67535a242a1fe2"), looks := false }, kinds := [], alts := [], laidByText := true, laidKinds := [.data, .data, .data, .data, .pinned], laidTests := true, laidLooks := .later }
def WordBackCardSaid : Prop := Claim7.holds Tryd.pinned (.plain (OpenSpec.ofChange wordBackSpec)) wordBackCard

/-- THE SECOND FORM's CARD OF 'intarsialaw01.WordShows'. -/
def wordShowsUptoCard : Claim7 := { stood := { row := wordShowsUptoRow, standIns := [], harness := (true, "e89f50fa4a42cb7db6412b753057b6dcb024a91c8f8e0b9e9b67535a242a1fe2"), looks := false }, kinds := [], alts := [], laidByText := true, laidKinds := [.data, .data, .data, .data, .pinned], laidTests := true, laidLooks := .later }
def WordShowsUptoCardSaid : Prop := Claim7.holds Tryd.pinned (.plain (OpenSpec.upto wordShowsSpec)) wordShowsUptoCard

/-- THE SECOND FORM's CARD OF 'intarsialaw01.WordEnds'. -/
def wordEndsUptoCard : Claim7 := { stood := { row := wordEndsUptoRow, standIns := [], harness := (true, "e89f50fa4a42cb7db6412b753057b6dcb024a91c8f8e0b9e9b67535a242a1fe2"), looks := false }, kinds := [], alts := [], laidByText := true, laidKinds := [.data, .data, .data, .data, .pinned], laidTests := true, laidLooks := .later }
def WordEndsUptoCardSaid : Prop := Claim7.holds Tryd.pinned (.plain (OpenSpec.upto wordEndsSpec)) wordEndsUptoCard

/-- THE SECOND FORM's CARD OF 'intarsialaw01.WordBack'. -/
def wordBackUptoCard : Claim7 := { stood := { row := wordBackUptoRow, standIns := [], harness := (true, "e89f50fa4a42cb7db6412b753057b6dcb024a91c8f8e0b9e9b67535a242a1fe2"), looks := false }, kinds := [], alts := [], laidByText := true, laidKinds := [.data, .data, .data, .data, .pinned], laidTests := true, laidLooks := .later }
def WordBackUptoCardSaid : Prop := Claim7.holds Tryd.pinned (.plain (OpenSpec.upto wordBackSpec)) wordBackUptoCard
end Rows
end Go.Proofs.YtfnmkgfaoacnpaaDoor
