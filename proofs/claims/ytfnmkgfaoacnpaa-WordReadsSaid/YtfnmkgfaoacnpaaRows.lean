/-
  No cell of these rows narrows 'for every input' (looked for: loops, veiled, ifaces, maps, wideKeys, modest, calm, conditions, laid).
  DERIVED. THE GIVEN ROWS OF THIS SEAT. 6 by the template 'for every input the law returns true; each argument reads behind the call as it read before'; 0 by the template 'total and deterministic' (their statements: YtfnmkgfaoacnpaaTotals.lean).
  GIVEN WITH THE SEED: the statements are not yours to turn. If you find one false, say at which input.
  Laid BY PROGRAM, IN A SANDBOX (cutbox-rows.mjs): the forced cells as the released guide's own fill.sh prints them over the translation 06eff1e21145a920… (all of the seat's roots in one cut). By AI agents, Wed Nov 11 2026. No macro, syntax, notation, axiom, sorry.
-/
import Derived.Test.YtfnmkgfaoacnpaaChecked
import GoSem.Claim
import GoSem.ClaimJoined
import GoSem.ClaimMapViews
import Derived.JoinedTies
import Derived.KernelRfl
namespace Go.Proofs.Ytfnmkgfaoacnpaa
/- THE CELL 'sum', in the pinned program and in every row, IS THE sha256 OF THE DUMP (.gsa) THAT YtfnmkgfaoacnpaaProg.lean LOADS. Nothing in Lean hashes anything: it is a label: what it is worth is what the hold of that sum in a sandbox is worth. -/
noncomputable def Try.pinned : Pinned := { name := "ytfnmkgfaoacnpaa", sum := "06eff1e21145a920893c3203970309e1477bb697e813e50c39a9a22585d73979", checked := Try.checked }
namespace Rows
def none {H : Type} : Left H := { results := [], args := [] }

/-- 'intarsialaw01.WordReads': WHATEVER THE INPUT: true; the input reads as it did. -/
def wordReadsSpec : ChangeSpec := { name := "wordReads", fn := fun _ => fun
  | [d] => { results := [.lit (.bool true)], args := [d] }
  | _ => none }
def wordReadsRow : OpenClaim := { program := "ytfnmkgfaoacnpaa", sum := "06eff1e21145a920893c3203970309e1477bb697e813e50c39a9a22585d73979", func := "intarsia/intarsialaw01.WordReads", spec := "wordReads", apart := false }
def WordReadsSaid : Prop := wordReadsRow.holds Try.pinned (OpenSpec.ofChange wordReadsSpec)

/-- ITS FALSE NEIGHBOUR: 'it returns false'. Refute it at one input. -/
def wordReadsWrong : ChangeSpec := { name := "wordReads", fn := fun _ => fun
  | [d] => { results := [.lit (.bool false)], args := [d] }
  | _ => none }
def WordReadsWrongFalsely : Prop := wordReadsRow.holds Try.pinned (OpenSpec.ofChange wordReadsWrong)

/-- 'intarsialaw01.WordPlaces': WHATEVER THE INPUT: true; the input reads as it did. -/
def wordPlacesSpec : ChangeSpec := { name := "wordPlaces", fn := fun _ => fun
  | [d] => { results := [.lit (.bool true)], args := [d] }
  | _ => none }
def wordPlacesRow : OpenClaim := { program := "ytfnmkgfaoacnpaa", sum := "06eff1e21145a920893c3203970309e1477bb697e813e50c39a9a22585d73979", func := "intarsia/intarsialaw01.WordPlaces", spec := "wordPlaces", apart := false }
def WordPlacesSaid : Prop := wordPlacesRow.holds Try.pinned (OpenSpec.ofChange wordPlacesSpec)

/-- ITS FALSE NEIGHBOUR: 'it returns false'. Refute it at one input. -/
def wordPlacesWrong : ChangeSpec := { name := "wordPlaces", fn := fun _ => fun
  | [d] => { results := [.lit (.bool false)], args := [d] }
  | _ => none }
def WordPlacesWrongFalsely : Prop := wordPlacesRow.holds Try.pinned (OpenSpec.ofChange wordPlacesWrong)

/-- 'intarsialaw02.LineGets': WHATEVER THE INPUT: true; the input reads as it did. -/
def lineGetsSpec : ChangeSpec := { name := "lineGets", fn := fun _ => fun
  | [d1, d2] => { results := [.lit (.bool true)], args := [d1, d2] }
  | _ => none }
def lineGetsRow : OpenClaim := { program := "ytfnmkgfaoacnpaa", sum := "06eff1e21145a920893c3203970309e1477bb697e813e50c39a9a22585d73979", func := "intarsia/intarsialaw02.LineGets", spec := "lineGets", apart := false }
def LineGetsSaid : Prop := lineGetsRow.holds Try.pinned (OpenSpec.ofChange lineGetsSpec)

/-- ITS FALSE NEIGHBOUR: 'it returns false'. Refute it at one input. -/
def lineGetsWrong : ChangeSpec := { name := "lineGets", fn := fun _ => fun
  | [d1, d2] => { results := [.lit (.bool false)], args := [d1, d2] }
  | _ => none }
def LineGetsWrongFalsely : Prop := lineGetsRow.holds Try.pinned (OpenSpec.ofChange lineGetsWrong)

/-- 'intarsialaw02.LineEnds': WHATEVER THE INPUT: true; the input reads as it did. -/
def lineEndsSpec : ChangeSpec := { name := "lineEnds", fn := fun _ => fun
  | [] => { results := [.lit (.bool true)], args := [] }
  | _ => none }
def lineEndsRow : OpenClaim := { program := "ytfnmkgfaoacnpaa", sum := "06eff1e21145a920893c3203970309e1477bb697e813e50c39a9a22585d73979", func := "intarsia/intarsialaw02.LineEnds", spec := "lineEnds", apart := false }
def LineEndsSaid : Prop := lineEndsRow.holds Try.pinned (OpenSpec.ofChange lineEndsSpec)

/-- ITS FALSE NEIGHBOUR: 'it returns false'. Refute it at one input. -/
def lineEndsWrong : ChangeSpec := { name := "lineEnds", fn := fun _ => fun
  | [] => { results := [.lit (.bool false)], args := [] }
  | _ => none }
def LineEndsWrongFalsely : Prop := lineEndsRow.holds Try.pinned (OpenSpec.ofChange lineEndsWrong)

/-- 'intarsialaw02.LineAll': WHATEVER THE INPUT: true; the input reads as it did. -/
def lineAllSpec : ChangeSpec := { name := "lineAll", fn := fun _ => fun
  | [d] => { results := [.lit (.bool true)], args := [d] }
  | _ => none }
def lineAllRow : OpenClaim := { program := "ytfnmkgfaoacnpaa", sum := "06eff1e21145a920893c3203970309e1477bb697e813e50c39a9a22585d73979", func := "intarsia/intarsialaw02.LineAll", spec := "lineAll", apart := false }
def LineAllSaid : Prop := lineAllRow.holds Try.pinned (OpenSpec.ofChange lineAllSpec)

/-- ITS FALSE NEIGHBOUR: 'it returns false'. Refute it at one input. -/
def lineAllWrong : ChangeSpec := { name := "lineAll", fn := fun _ => fun
  | [d] => { results := [.lit (.bool false)], args := [d] }
  | _ => none }
def LineAllWrongFalsely : Prop := lineAllRow.holds Try.pinned (OpenSpec.ofChange lineAllWrong)

/-- 'intarsialaw02.LineBlank': WHATEVER THE INPUT: true; the input reads as it did. -/
def lineBlankSpec : ChangeSpec := { name := "lineBlank", fn := fun _ => fun
  | [d1, d2, d3] => { results := [.lit (.bool true)], args := [d1, d2, d3] }
  | _ => none }
def lineBlankRow : OpenClaim := { program := "ytfnmkgfaoacnpaa", sum := "06eff1e21145a920893c3203970309e1477bb697e813e50c39a9a22585d73979", func := "intarsia/intarsialaw02.LineBlank", spec := "lineBlank", apart := false }
def LineBlankSaid : Prop := lineBlankRow.holds Try.pinned (OpenSpec.ofChange lineBlankSpec)

/-- ITS FALSE NEIGHBOUR: 'it returns false'. Refute it at one input. -/
def lineBlankWrong : ChangeSpec := { name := "lineBlank", fn := fun _ => fun
  | [d1, d2, d3] => { results := [.lit (.bool false)], args := [d1, d2, d3] }
  | _ => none }
def LineBlankWrongFalsely : Prop := lineBlankRow.holds Try.pinned (OpenSpec.ofChange lineBlankWrong)

/- THE SECOND FORM. 'bulk': how many values and letters a reading holds, each counted each time it is reached (what is shared counts as often as it is met; a slice's spare places count too). A statement '..UptoSaid' is the law's where the arguments, and the package variables that the reading takes, are together of bulk at most 1048576: NARROWER than '..Said'. Prove '..Said' where nothing that the law and all that it calls make is longer than what came in: it says more and counts as full. Else prove '..UptoSaid'. A law counts once. -/
mutual
def uptoBulk {H : Type} : DataW H → Nat
  | .lit (.string bytes) => bytes.length + 1
  | .lit _ => 1
  | .nil => 1
  | .ptr d => uptoBulk d + 1
  | .slice elems spare => uptoBulkAll elems + uptoBulkAll spare + 1
  | .agg parts => uptoBulkAll parts + 1
  | .iface _ d => uptoBulk d + 1
  | .map entries => uptoBulkEntries entries + 1
  | .held _ => 1
def uptoBulkAll {H : Type} : List (DataW H) → Nat
  | [] => 0
  | d :: r => uptoBulk d + uptoBulkAll r
def uptoBulkEntries {H : Type} : List (Lit × DataW H) → Nat
  | [] => 0
  | x :: r => uptoBulkEntry x + uptoBulkEntries r
def uptoBulkEntry {H : Type} : Lit × DataW H → Nat
  | (.string bytes, d) => bytes.length + uptoBulk d + 1
  | (_, d) => uptoBulk d + 1
 end
def uptoSmall : (H : Type) → List (DataW H) → Bool := fun _ ds => decide (uptoBulkAll ds ≤ 1048576)
def OpenSpec.upto (s : _root_.Go.ChangeSpec) : _root_.Go.OpenSpec := { _root_.Go.OpenSpec.ofChange s with cond := some uptoSmall }

/-- 'intarsialaw01.WordReads', WHERE WHAT IT READS IS OF BULK AT MOST 1048576: true; the input reads as it did. -/
def wordReadsUptoRow : OpenClaim := { program := "ytfnmkgfaoacnpaa", sum := "06eff1e21145a920893c3203970309e1477bb697e813e50c39a9a22585d73979", func := "intarsia/intarsialaw01.WordReads", spec := "wordReads", apart := false, narrowed := true }
def WordReadsUptoSaid : Prop := wordReadsUptoRow.holds Try.pinned (OpenSpec.upto wordReadsSpec)

/-- 'intarsialaw01.WordPlaces', WHERE WHAT IT READS IS OF BULK AT MOST 1048576: true; the input reads as it did. -/
def wordPlacesUptoRow : OpenClaim := { program := "ytfnmkgfaoacnpaa", sum := "06eff1e21145a920893c3203970309e1477bb697e813e50c39a9a22585d73979", func := "intarsia/intarsialaw01.WordPlaces", spec := "wordPlaces", apart := false, narrowed := true }
def WordPlacesUptoSaid : Prop := wordPlacesUptoRow.holds Try.pinned (OpenSpec.upto wordPlacesSpec)

/-- 'intarsialaw02.LineGets', WHERE WHAT IT READS IS OF BULK AT MOST 1048576: true; the input reads as it did. -/
def lineGetsUptoRow : OpenClaim := { program := "ytfnmkgfaoacnpaa", sum := "06eff1e21145a920893c3203970309e1477bb697e813e50c39a9a22585d73979", func := "intarsia/intarsialaw02.LineGets", spec := "lineGets", apart := false, narrowed := true }
def LineGetsUptoSaid : Prop := lineGetsUptoRow.holds Try.pinned (OpenSpec.upto lineGetsSpec)

/-- 'intarsialaw02.LineEnds', WHERE WHAT IT READS IS OF BULK AT MOST 1048576: true; the input reads as it did. -/
def lineEndsUptoRow : OpenClaim := { program := "ytfnmkgfaoacnpaa", sum := "06eff1e21145a920893c3203970309e1477bb697e813e50c39a9a22585d73979", func := "intarsia/intarsialaw02.LineEnds", spec := "lineEnds", apart := false, narrowed := true }
def LineEndsUptoSaid : Prop := lineEndsUptoRow.holds Try.pinned (OpenSpec.upto lineEndsSpec)

/-- 'intarsialaw02.LineAll', WHERE WHAT IT READS IS OF BULK AT MOST 1048576: true; the input reads as it did. -/
def lineAllUptoRow : OpenClaim := { program := "ytfnmkgfaoacnpaa", sum := "06eff1e21145a920893c3203970309e1477bb697e813e50c39a9a22585d73979", func := "intarsia/intarsialaw02.LineAll", spec := "lineAll", apart := false, narrowed := true }
def LineAllUptoSaid : Prop := lineAllUptoRow.holds Try.pinned (OpenSpec.upto lineAllSpec)

/-- 'intarsialaw02.LineBlank', WHERE WHAT IT READS IS OF BULK AT MOST 1048576: true; the input reads as it did. -/
def lineBlankUptoRow : OpenClaim := { program := "ytfnmkgfaoacnpaa", sum := "06eff1e21145a920893c3203970309e1477bb697e813e50c39a9a22585d73979", func := "intarsia/intarsialaw02.LineBlank", spec := "lineBlank", apart := false, narrowed := true }
def LineBlankUptoSaid : Prop := lineBlankUptoRow.holds Try.pinned (OpenSpec.upto lineBlankSpec)

end Rows
end Go.Proofs.Ytfnmkgfaoacnpaa
