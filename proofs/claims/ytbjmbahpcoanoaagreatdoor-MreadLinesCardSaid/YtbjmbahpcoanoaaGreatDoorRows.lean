/-
  NARROWER THAN 'FOR EVERY INPUT', by the rows' own cells (each row's printed sentence says how): MreadPrints: laid · MreadParses: laid · MreadLines: laid · MreadBack: laid · MreadUnlike: laid.
  DERIVED. THE GIVEN ROWS OF THIS SEAT. 5 by the template 'for every input the law returns true; each argument reads behind the call as it read before'; 0 by the template 'total and deterministic' (their statements: YtbjmbahpcoanoaaGreatDoorTotals.lean).
  GIVEN WITH THE SEED: the statements are not yours to turn. If you find one false, say at which input.
  Laid BY PROGRAM, IN A SANDBOX (cutbox-rows.mjs): the forced cells as the released guide's own fill.sh prints them over the translation 0d8cdc9a95043c90… (all of the seat's roots in one cut). By AI agents, Wed Nov 11 2026. No macro, syntax, notation, axiom, sorry.
-/
import Derived.Test.YtbjmbahpcoanoaaGreatDoorChecked
import GoSem.Claim
import GoSem.ClaimJoined
import GoSem.ClaimMapViews
import Derived.JoinedTies
import Derived.KernelRfl
namespace Go.Proofs.YtbjmbahpcoanoaaGreatDoor
/- THE CELL 'sum', in the pinned program and in every row, IS THE sha256 OF THE DUMP (.gsa) THAT YtbjmbahpcoanoaaGreatDoorProg.lean LOADS. Nothing in Lean hashes anything: it is a label: what it is worth is what the hold of that sum in a sandbox is worth. -/
noncomputable def Tryz.pinned : Pinned := { name := "ytbjmbahpcoanoaagreatdoor", sum := "0d8cdc9a95043c9007bdb5a0bc11f4de3a5b317ab78e5b68dcb8bdd271b8e159", checked := Tryz.checked }
namespace Rows
def none {H : Type} : Left H := { results := [], args := [] }

/- WHAT THE LISTED PACKAGE-LEVEL VARIABLES READ AS WHEN THE CALL BEGINS. Each datum BY PROGRAM (the guide's laid-datum.mjs) off the statement by which the dump's own 'gosem.cut.vars' lays the variable. In a bare row this is a premise. The card (YtbjmbahpcoanoaaGreatDoorCards.lean) ties it to the program's text. -/
def laid_math_bits_deBruijn32tab {H : Type} : DataW H := .agg [.lit (.int .u8 0), .lit (.int .u8 1), .lit (.int .u8 28), .lit (.int .u8 2), .lit (.int .u8 29), .lit (.int .u8 14), .lit (.int .u8 24), .lit (.int .u8 3), .lit (.int .u8 30), .lit (.int .u8 22), .lit (.int .u8 20), .lit (.int .u8 15), .lit (.int .u8 25), .lit (.int .u8 17), .lit (.int .u8 4), .lit (.int .u8 8), .lit (.int .u8 31), .lit (.int .u8 27), .lit (.int .u8 13), .lit (.int .u8 23), .lit (.int .u8 21), .lit (.int .u8 19), .lit (.int .u8 16), .lit (.int .u8 7), .lit (.int .u8 26), .lit (.int .u8 12), .lit (.int .u8 18), .lit (.int .u8 6), .lit (.int .u8 11), .lit (.int .u8 5), .lit (.int .u8 10), .lit (.int .u8 9)]
def laid_math_bits_deBruijn64tab {H : Type} : DataW H := .agg [.lit (.int .u8 0), .lit (.int .u8 1), .lit (.int .u8 56), .lit (.int .u8 2), .lit (.int .u8 57), .lit (.int .u8 49), .lit (.int .u8 28), .lit (.int .u8 3), .lit (.int .u8 61), .lit (.int .u8 58), .lit (.int .u8 42), .lit (.int .u8 50), .lit (.int .u8 38), .lit (.int .u8 29), .lit (.int .u8 17), .lit (.int .u8 4), .lit (.int .u8 62), .lit (.int .u8 47), .lit (.int .u8 59), .lit (.int .u8 36), .lit (.int .u8 45), .lit (.int .u8 43), .lit (.int .u8 51), .lit (.int .u8 22), .lit (.int .u8 53), .lit (.int .u8 39), .lit (.int .u8 33), .lit (.int .u8 30), .lit (.int .u8 24), .lit (.int .u8 18), .lit (.int .u8 12), .lit (.int .u8 5), .lit (.int .u8 63), .lit (.int .u8 55), .lit (.int .u8 48), .lit (.int .u8 27), .lit (.int .u8 60), .lit (.int .u8 41), .lit (.int .u8 37), .lit (.int .u8 16), .lit (.int .u8 46), .lit (.int .u8 35), .lit (.int .u8 44), .lit (.int .u8 21), .lit (.int .u8 52), .lit (.int .u8 32), .lit (.int .u8 23), .lit (.int .u8 11), .lit (.int .u8 54), .lit (.int .u8 26), .lit (.int .u8 40), .lit (.int .u8 15), .lit (.int .u8 34), .lit (.int .u8 20), .lit (.int .u8 31), .lit (.int .u8 10), .lit (.int .u8 25), .lit (.int .u8 14), .lit (.int .u8 19), .lit (.int .u8 9), .lit (.int .u8 13), .lit (.int .u8 8), .lit (.int .u8 7), .lit (.int .u8 6)]
def laid_internal_strconv_uint64pow10 {H : Type} : DataW H := .agg [.lit (.int .u64 1), .lit (.int .u64 10), .lit (.int .u64 100), .lit (.int .u64 1000), .lit (.int .u64 10000), .lit (.int .u64 100000), .lit (.int .u64 1000000), .lit (.int .u64 10000000), .lit (.int .u64 100000000), .lit (.int .u64 1000000000), .lit (.int .u64 10000000000), .lit (.int .u64 100000000000), .lit (.int .u64 1000000000000), .lit (.int .u64 10000000000000), .lit (.int .u64 100000000000000), .lit (.int .u64 1000000000000000), .lit (.int .u64 10000000000000000), .lit (.int .u64 100000000000000000), .lit (.int .u64 1000000000000000000), .lit (.int .u64 10000000000000000000)]
def laid_strconv_ErrRange {H : Type} : DataW H := .iface "*errors.errorString" (.ptr (.agg [.lit (.string [118, 97, 108, 117, 101, 32, 111, 117, 116, 32, 111, 102, 32, 114, 97, 110, 103, 101])]))
def laid_strconv_ErrSyntax {H : Type} : DataW H := .iface "*errors.errorString" (.ptr (.agg [.lit (.string [105, 110, 118, 97, 108, 105, 100, 32, 115, 121, 110, 116, 97, 120])]))
def laid_intarsia_mir_opHas {H : Type} : DataW H := .agg [.lit (.int .i64 0), .lit (.int .i64 9), .lit (.int .i64 7), .lit (.int .i64 7), .lit (.int .i64 7), .lit (.int .i64 7), .lit (.int .i64 7), .lit (.int .i64 7), .lit (.int .i64 7), .lit (.int .i64 7), .lit (.int .i64 7), .lit (.int .i64 11), .lit (.int .i64 14), .lit (.int .i64 64), .lit (.int .i64 0), .lit (.int .i64 3), .lit (.int .i64 34), .lit (.int .i64 17)]
def laid_intarsia_mread_names {H : Type} : DataW H := .agg [.lit (.string []), .lit (.string [99, 111, 110, 115, 116]), .lit (.string [97, 100, 100]), .lit (.string [115, 117, 98]), .lit (.string [109, 117, 108]), .lit (.string [100, 105, 118]), .lit (.string [97, 110, 100]), .lit (.string [111, 114]), .lit (.string [120, 111, 114]), .lit (.string [108, 101, 115, 115]), .lit (.string [115, 97, 109, 101]), .lit (.string [108, 111, 97, 100])]

/-- 'intarsialaw07.MreadPrints': WHATEVER THE INPUT: true; the input reads as it did. -/
def mreadPrintsSpec : ChangeSpec := { name := "mreadPrints", fn := fun _ => fun
  | [d] => { results := [.lit (.bool true)], args := [d] }
  | _ => none }
def mreadPrintsRow : OpenClaim := { program := "ytbjmbahpcoanoaagreatdoor", sum := "0d8cdc9a95043c9007bdb5a0bc11f4de3a5b317ab78e5b68dcb8bdd271b8e159", func := "intarsia/intarsialaw07.MreadPrints", spec := "mreadPrints", inPlace := ["internal/abi.NoEscape", "internal/bytealg.MakeNoZero"], unfollowed := true, recurses := true, named := ["strconv.ErrSyntax", "strconv.ErrRange", "internal/strconv.uint64pow10", "math/bits.deBruijn32tab", "math/bits.deBruijn64tab", "intarsia/mread.names", "intarsia/mir.opHas"], apart := false, laid := [("math/bits.deBruijn32tab", laid_math_bits_deBruijn32tab), ("math/bits.deBruijn64tab", laid_math_bits_deBruijn64tab), ("internal/strconv.uint64pow10", laid_internal_strconv_uint64pow10), ("strconv.ErrRange", laid_strconv_ErrRange), ("strconv.ErrSyntax", laid_strconv_ErrSyntax), ("intarsia/mir.opHas", laid_intarsia_mir_opHas), ("intarsia/mread.names", laid_intarsia_mread_names)] }
def MreadPrintsSaid : Prop := mreadPrintsRow.holds Tryz.pinned (OpenSpec.ofChange mreadPrintsSpec)

/-- ITS FALSE NEIGHBOUR: 'it returns false'. Refute it at one input. -/
def mreadPrintsWrong : ChangeSpec := { name := "mreadPrints", fn := fun _ => fun
  | [d] => { results := [.lit (.bool false)], args := [d] }
  | _ => none }
def MreadPrintsWrongFalsely : Prop := mreadPrintsRow.holds Tryz.pinned (OpenSpec.ofChange mreadPrintsWrong)

/-- 'intarsialaw07.MreadParses': WHATEVER THE INPUT: true; the input reads as it did. -/
def mreadParsesSpec : ChangeSpec := { name := "mreadParses", fn := fun _ => fun
  | [d] => { results := [.lit (.bool true)], args := [d] }
  | _ => none }
def mreadParsesRow : OpenClaim := { program := "ytbjmbahpcoanoaagreatdoor", sum := "0d8cdc9a95043c9007bdb5a0bc11f4de3a5b317ab78e5b68dcb8bdd271b8e159", func := "intarsia/intarsialaw07.MreadParses", spec := "mreadParses", inPlace := ["internal/abi.NoEscape", "internal/bytealg.MakeNoZero"], unfollowed := true, recurses := true, named := ["strconv.ErrSyntax", "strconv.ErrRange", "internal/strconv.uint64pow10", "math/bits.deBruijn32tab", "math/bits.deBruijn64tab", "intarsia/mread.names", "intarsia/mir.opHas"], apart := false, laid := [("math/bits.deBruijn32tab", laid_math_bits_deBruijn32tab), ("math/bits.deBruijn64tab", laid_math_bits_deBruijn64tab), ("internal/strconv.uint64pow10", laid_internal_strconv_uint64pow10), ("strconv.ErrRange", laid_strconv_ErrRange), ("strconv.ErrSyntax", laid_strconv_ErrSyntax), ("intarsia/mir.opHas", laid_intarsia_mir_opHas), ("intarsia/mread.names", laid_intarsia_mread_names)] }
def MreadParsesSaid : Prop := mreadParsesRow.holds Tryz.pinned (OpenSpec.ofChange mreadParsesSpec)

/-- ITS FALSE NEIGHBOUR: 'it returns false'. Refute it at one input. -/
def mreadParsesWrong : ChangeSpec := { name := "mreadParses", fn := fun _ => fun
  | [d] => { results := [.lit (.bool false)], args := [d] }
  | _ => none }
def MreadParsesWrongFalsely : Prop := mreadParsesRow.holds Tryz.pinned (OpenSpec.ofChange mreadParsesWrong)

/-- 'intarsialaw07.MreadLines': WHATEVER THE INPUT: true; the input reads as it did. -/
def mreadLinesSpec : ChangeSpec := { name := "mreadLines", fn := fun _ => fun
  | [] => { results := [.lit (.bool true)], args := [] }
  | _ => none }
def mreadLinesRow : OpenClaim := { program := "ytbjmbahpcoanoaagreatdoor", sum := "0d8cdc9a95043c9007bdb5a0bc11f4de3a5b317ab78e5b68dcb8bdd271b8e159", func := "intarsia/intarsialaw07.MreadLines", spec := "mreadLines", inPlace := ["internal/abi.NoEscape", "internal/bytealg.MakeNoZero"], unfollowed := true, recurses := true, named := ["strconv.ErrSyntax", "strconv.ErrRange", "internal/strconv.uint64pow10", "math/bits.deBruijn32tab", "math/bits.deBruijn64tab", "intarsia/mread.names", "intarsia/mir.opHas"], apart := false, laid := [("math/bits.deBruijn32tab", laid_math_bits_deBruijn32tab), ("math/bits.deBruijn64tab", laid_math_bits_deBruijn64tab), ("internal/strconv.uint64pow10", laid_internal_strconv_uint64pow10), ("strconv.ErrRange", laid_strconv_ErrRange), ("strconv.ErrSyntax", laid_strconv_ErrSyntax), ("intarsia/mir.opHas", laid_intarsia_mir_opHas), ("intarsia/mread.names", laid_intarsia_mread_names)] }
def MreadLinesSaid : Prop := mreadLinesRow.holds Tryz.pinned (OpenSpec.ofChange mreadLinesSpec)

/-- ITS FALSE NEIGHBOUR: 'it returns false'. Refute it at one input. -/
def mreadLinesWrong : ChangeSpec := { name := "mreadLines", fn := fun _ => fun
  | [] => { results := [.lit (.bool false)], args := [] }
  | _ => none }
def MreadLinesWrongFalsely : Prop := mreadLinesRow.holds Tryz.pinned (OpenSpec.ofChange mreadLinesWrong)

/-- 'intarsialaw07.MreadBack': WHATEVER THE INPUT: true; the input reads as it did. -/
def mreadBackSpec : ChangeSpec := { name := "mreadBack", fn := fun _ => fun
  | [d1, d2, d3] => { results := [.lit (.bool true)], args := [d1, d2, d3] }
  | _ => none }
def mreadBackRow : OpenClaim := { program := "ytbjmbahpcoanoaagreatdoor", sum := "0d8cdc9a95043c9007bdb5a0bc11f4de3a5b317ab78e5b68dcb8bdd271b8e159", func := "intarsia/intarsialaw07.MreadBack", spec := "mreadBack", inPlace := ["internal/abi.NoEscape", "internal/bytealg.MakeNoZero"], unfollowed := true, recurses := true, named := ["strconv.ErrSyntax", "strconv.ErrRange", "internal/strconv.uint64pow10", "math/bits.deBruijn32tab", "math/bits.deBruijn64tab", "intarsia/mread.names", "intarsia/mir.opHas"], apart := false, laid := [("math/bits.deBruijn32tab", laid_math_bits_deBruijn32tab), ("math/bits.deBruijn64tab", laid_math_bits_deBruijn64tab), ("internal/strconv.uint64pow10", laid_internal_strconv_uint64pow10), ("strconv.ErrRange", laid_strconv_ErrRange), ("strconv.ErrSyntax", laid_strconv_ErrSyntax), ("intarsia/mir.opHas", laid_intarsia_mir_opHas), ("intarsia/mread.names", laid_intarsia_mread_names)] }
def MreadBackSaid : Prop := mreadBackRow.holds Tryz.pinned (OpenSpec.ofChange mreadBackSpec)

/-- ITS FALSE NEIGHBOUR: 'it returns false'. Refute it at one input. -/
def mreadBackWrong : ChangeSpec := { name := "mreadBack", fn := fun _ => fun
  | [d1, d2, d3] => { results := [.lit (.bool false)], args := [d1, d2, d3] }
  | _ => none }
def MreadBackWrongFalsely : Prop := mreadBackRow.holds Tryz.pinned (OpenSpec.ofChange mreadBackWrong)

/-- 'intarsialaw07.MreadUnlike': WHATEVER THE INPUT: true; the input reads as it did. -/
def mreadUnlikeSpec : ChangeSpec := { name := "mreadUnlike", fn := fun _ => fun
  | [d1, d2] => { results := [.lit (.bool true)], args := [d1, d2] }
  | _ => none }
def mreadUnlikeRow : OpenClaim := { program := "ytbjmbahpcoanoaagreatdoor", sum := "0d8cdc9a95043c9007bdb5a0bc11f4de3a5b317ab78e5b68dcb8bdd271b8e159", func := "intarsia/intarsialaw07.MreadUnlike", spec := "mreadUnlike", inPlace := ["internal/abi.NoEscape", "internal/bytealg.MakeNoZero"], unfollowed := true, recurses := true, named := ["strconv.ErrSyntax", "strconv.ErrRange", "internal/strconv.uint64pow10", "math/bits.deBruijn32tab", "math/bits.deBruijn64tab", "intarsia/mread.names", "intarsia/mir.opHas"], apart := false, laid := [("math/bits.deBruijn32tab", laid_math_bits_deBruijn32tab), ("math/bits.deBruijn64tab", laid_math_bits_deBruijn64tab), ("internal/strconv.uint64pow10", laid_internal_strconv_uint64pow10), ("strconv.ErrRange", laid_strconv_ErrRange), ("strconv.ErrSyntax", laid_strconv_ErrSyntax), ("intarsia/mir.opHas", laid_intarsia_mir_opHas), ("intarsia/mread.names", laid_intarsia_mread_names)] }
def MreadUnlikeSaid : Prop := mreadUnlikeRow.holds Tryz.pinned (OpenSpec.ofChange mreadUnlikeSpec)

/-- ITS FALSE NEIGHBOUR: 'it returns false'. Refute it at one input. -/
def mreadUnlikeWrong : ChangeSpec := { name := "mreadUnlike", fn := fun _ => fun
  | [d1, d2] => { results := [.lit (.bool false)], args := [d1, d2] }
  | _ => none }
def MreadUnlikeWrongFalsely : Prop := mreadUnlikeRow.holds Tryz.pinned (OpenSpec.ofChange mreadUnlikeWrong)

/- THE SECOND FORM. 'bulk': how many values and letters a reading holds, each counted each time it is reached (what is shared counts as often as it is met; a slice's spare places count too). A statement '..UptoSaid' is the law's where the arguments, and the package variables that the reading takes, are together of bulk at most 1048576: NARROWER than '..Said'. Prove '..Said' where nothing that the law and all that it calls make is longer than what came in: it says more and counts as full. Else prove '..UptoSaid'. A law counts once. -/
mutual
def uptoBulk {H : Type} : DataW H → Nat
  | .lit (.string bytes) => bytes.length + 1
  | .lit _ => 1
  | .nil => 1
  | .ptr d => uptoBulk d + 1
  | .slice elems spare => uptoBulkAll elems + uptoBulkAll spare + 1
  | .agg parts => uptoBulkAll parts + 1
  | .iface _ d => uptoBulk d + 1
  | .map entries => uptoBulkEntries entries + 1
  | .held _ => 1
def uptoBulkAll {H : Type} : List (DataW H) → Nat
  | [] => 0
  | d :: r => uptoBulk d + uptoBulkAll r
def uptoBulkEntries {H : Type} : List (Lit × DataW H) → Nat
  | [] => 0
  | x :: r => uptoBulkEntry x + uptoBulkEntries r
def uptoBulkEntry {H : Type} : Lit × DataW H → Nat
  | (.string bytes, d) => bytes.length + uptoBulk d + 1
  | (_, d) => uptoBulk d + 1
 end
def uptoSmall : (H : Type) → List (DataW H) → Bool := fun _ ds => decide (uptoBulkAll ds ≤ 1048576)
def OpenSpec.upto (s : _root_.Go.ChangeSpec) : _root_.Go.OpenSpec := { _root_.Go.OpenSpec.ofChange s with cond := some uptoSmall }

/-- 'intarsialaw07.MreadPrints', WHERE WHAT IT READS IS OF BULK AT MOST 1048576: true; the input reads as it did. -/
def mreadPrintsUptoRow : OpenClaim := { program := "ytbjmbahpcoanoaagreatdoor", sum := "0d8cdc9a95043c9007bdb5a0bc11f4de3a5b317ab78e5b68dcb8bdd271b8e159", func := "intarsia/intarsialaw07.MreadPrints", spec := "mreadPrints", inPlace := ["internal/abi.NoEscape", "internal/bytealg.MakeNoZero"], unfollowed := true, recurses := true, named := ["strconv.ErrSyntax", "strconv.ErrRange", "internal/strconv.uint64pow10", "math/bits.deBruijn32tab", "math/bits.deBruijn64tab", "intarsia/mread.names", "intarsia/mir.opHas"], apart := false, laid := [("math/bits.deBruijn32tab", laid_math_bits_deBruijn32tab), ("math/bits.deBruijn64tab", laid_math_bits_deBruijn64tab), ("internal/strconv.uint64pow10", laid_internal_strconv_uint64pow10), ("strconv.ErrRange", laid_strconv_ErrRange), ("strconv.ErrSyntax", laid_strconv_ErrSyntax), ("intarsia/mir.opHas", laid_intarsia_mir_opHas), ("intarsia/mread.names", laid_intarsia_mread_names)], narrowed := true }
def MreadPrintsUptoSaid : Prop := mreadPrintsUptoRow.holds Tryz.pinned (OpenSpec.upto mreadPrintsSpec)

/-- 'intarsialaw07.MreadParses', WHERE WHAT IT READS IS OF BULK AT MOST 1048576: true; the input reads as it did. -/
def mreadParsesUptoRow : OpenClaim := { program := "ytbjmbahpcoanoaagreatdoor", sum := "0d8cdc9a95043c9007bdb5a0bc11f4de3a5b317ab78e5b68dcb8bdd271b8e159", func := "intarsia/intarsialaw07.MreadParses", spec := "mreadParses", inPlace := ["internal/abi.NoEscape", "internal/bytealg.MakeNoZero"], unfollowed := true, recurses := true, named := ["strconv.ErrSyntax", "strconv.ErrRange", "internal/strconv.uint64pow10", "math/bits.deBruijn32tab", "math/bits.deBruijn64tab", "intarsia/mread.names", "intarsia/mir.opHas"], apart := false, laid := [("math/bits.deBruijn32tab", laid_math_bits_deBruijn32tab), ("math/bits.deBruijn64tab", laid_math_bits_deBruijn64tab), ("internal/strconv.uint64pow10", laid_internal_strconv_uint64pow10), ("strconv.ErrRange", laid_strconv_ErrRange), ("strconv.ErrSyntax", laid_strconv_ErrSyntax), ("intarsia/mir.opHas", laid_intarsia_mir_opHas), ("intarsia/mread.names", laid_intarsia_mread_names)], narrowed := true }
def MreadParsesUptoSaid : Prop := mreadParsesUptoRow.holds Tryz.pinned (OpenSpec.upto mreadParsesSpec)

/-- 'intarsialaw07.MreadLines', WHERE WHAT IT READS IS OF BULK AT MOST 1048576: true; the input reads as it did. -/
def mreadLinesUptoRow : OpenClaim := { program := "ytbjmbahpcoanoaagreatdoor", sum := "0d8cdc9a95043c9007bdb5a0bc11f4de3a5b317ab78e5b68dcb8bdd271b8e159", func := "intarsia/intarsialaw07.MreadLines", spec := "mreadLines", inPlace := ["internal/abi.NoEscape", "internal/bytealg.MakeNoZero"], unfollowed := true, recurses := true, named := ["strconv.ErrSyntax", "strconv.ErrRange", "internal/strconv.uint64pow10", "math/bits.deBruijn32tab", "math/bits.deBruijn64tab", "intarsia/mread.names", "intarsia/mir.opHas"], apart := false, laid := [("math/bits.deBruijn32tab", laid_math_bits_deBruijn32tab), ("math/bits.deBruijn64tab", laid_math_bits_deBruijn64tab), ("internal/strconv.uint64pow10", laid_internal_strconv_uint64pow10), ("strconv.ErrRange", laid_strconv_ErrRange), ("strconv.ErrSyntax", laid_strconv_ErrSyntax), ("intarsia/mir.opHas", laid_intarsia_mir_opHas), ("intarsia/mread.names", laid_intarsia_mread_names)], narrowed := true }
def MreadLinesUptoSaid : Prop := mreadLinesUptoRow.holds Tryz.pinned (OpenSpec.upto mreadLinesSpec)

/-- 'intarsialaw07.MreadBack', WHERE WHAT IT READS IS OF BULK AT MOST 1048576: true; the input reads as it did. -/
def mreadBackUptoRow : OpenClaim := { program := "ytbjmbahpcoanoaagreatdoor", sum := "0d8cdc9a95043c9007bdb5a0bc11f4de3a5b317ab78e5b68dcb8bdd271b8e159", func := "intarsia/intarsialaw07.MreadBack", spec := "mreadBack", inPlace := ["internal/abi.NoEscape", "internal/bytealg.MakeNoZero"], unfollowed := true, recurses := true, named := ["strconv.ErrSyntax", "strconv.ErrRange", "internal/strconv.uint64pow10", "math/bits.deBruijn32tab", "math/bits.deBruijn64tab", "intarsia/mread.names", "intarsia/mir.opHas"], apart := false, laid := [("math/bits.deBruijn32tab", laid_math_bits_deBruijn32tab), ("math/bits.deBruijn64tab", laid_math_bits_deBruijn64tab), ("internal/strconv.uint64pow10", laid_internal_strconv_uint64pow10), ("strconv.ErrRange", laid_strconv_ErrRange), ("strconv.ErrSyntax", laid_strconv_ErrSyntax), ("intarsia/mir.opHas", laid_intarsia_mir_opHas), ("intarsia/mread.names", laid_intarsia_mread_names)], narrowed := true }
def MreadBackUptoSaid : Prop := mreadBackUptoRow.holds Tryz.pinned (OpenSpec.upto mreadBackSpec)

/-- 'intarsialaw07.MreadUnlike', WHERE WHAT IT READS IS OF BULK AT MOST 1048576: true; the input reads as it did. -/
def mreadUnlikeUptoRow : OpenClaim := { program := "ytbjmbahpcoanoaagreatdoor", sum := "0d8cdc9a95043c9007bdb5a0bc11f4de3a5b317ab78e5b68dcb8bdd271b8e159", func := "intarsia/intarsialaw07.MreadUnlike", spec := "mreadUnlike", inPlace := ["internal/abi.NoEscape", "internal/bytealg.MakeNoZero"], unfollowed := true, recurses := true, named := ["strconv.ErrSyntax", "strconv.ErrRange", "internal/strconv.uint64pow10", "math/bits.deBruijn32tab", "math/bits.deBruijn64tab", "intarsia/mread.names", "intarsia/mir.opHas"], apart := false, laid := [("math/bits.deBruijn32tab", laid_math_bits_deBruijn32tab), ("math/bits.deBruijn64tab", laid_math_bits_deBruijn64tab), ("internal/strconv.uint64pow10", laid_internal_strconv_uint64pow10), ("strconv.ErrRange", laid_strconv_ErrRange), ("strconv.ErrSyntax", laid_strconv_ErrSyntax), ("intarsia/mir.opHas", laid_intarsia_mir_opHas), ("intarsia/mread.names", laid_intarsia_mread_names)], narrowed := true }
def MreadUnlikeUptoSaid : Prop := mreadUnlikeUptoRow.holds Tryz.pinned (OpenSpec.upto mreadUnlikeSpec)

end Rows
end Go.Proofs.YtbjmbahpcoanoaaGreatDoor
