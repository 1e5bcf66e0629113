/-
  No cell of these rows narrows 'for every input' (looked for: loops, veiled, ifaces, maps, wideKeys, modest, calm, conditions, laid).
  DERIVED. THE GIVEN ROWS OF THIS SEAT. 4 by the template 'for every input the law returns true; each argument reads behind the call as it read before'; 0 by the template 'total and deterministic' (their statements: YtcofoeenfohpnaaTotals.lean).
  GIVEN WITH THE SEED: the statements are not yours to turn. If you find one false, say at which input.
  Laid BY PROGRAM, IN A SANDBOX (cutbox-rows.mjs): the forced cells as the released guide's own fill.sh prints them over the translation a5965bca16077c3e… (all of the seat's roots in one cut). By AI agents, Wed Nov 11 2026. No macro, syntax, notation, axiom, sorry.
-/
import Derived.Test.YtcofoeenfohpnaaChecked
import GoSem.Claim
import GoSem.ClaimJoined
import GoSem.ClaimMapViews
import Derived.JoinedTies
import Derived.KernelRfl
namespace Go.Proofs.Ytcofoeenfohpnaa
/- THE CELL 'sum', in the pinned program and in every row, IS THE sha256 OF THE DUMP (.gsa) THAT YtcofoeenfohpnaaProg.lean LOADS. Nothing in Lean hashes anything: it is a label: what it is worth is what the hold of that sum in a sandbox is worth. -/
noncomputable def Try.pinned : Pinned := { name := "ytcofoeenfohpnaa", sum := "a5965bca16077c3e0658e354310edcf1d49a29475583c2dca7402ceeaf049716", checked := Try.checked }
namespace Rows
def none {H : Type} : Left H := { results := [], args := [] }

/-- 'intarsialaw03.IrParts': WHATEVER THE INPUT: true; the input reads as it did. -/
def irPartsSpec : ChangeSpec := { name := "irParts", fn := fun _ => fun
  | [d1, d2] => { results := [.lit (.bool true)], args := [d1, d2] }
  | _ => none }
def irPartsRow : OpenClaim := { program := "ytcofoeenfohpnaa", sum := "a5965bca16077c3e0658e354310edcf1d49a29475583c2dca7402ceeaf049716", func := "intarsia/intarsialaw03.IrParts", spec := "irParts", unfollowed := true, recurses := true, apart := false }
def IrPartsSaid : Prop := irPartsRow.holds Try.pinned (OpenSpec.ofChange irPartsSpec)

/-- ITS FALSE NEIGHBOUR: 'it returns false'. Refute it at one input. -/
def irPartsWrong : ChangeSpec := { name := "irParts", fn := fun _ => fun
  | [d1, d2] => { results := [.lit (.bool false)], args := [d1, d2] }
  | _ => none }
def IrPartsWrongFalsely : Prop := irPartsRow.holds Try.pinned (OpenSpec.ofChange irPartsWrong)

/-- 'intarsialaw03.IrTells': WHATEVER THE INPUT: true; the input reads as it did. -/
def irTellsSpec : ChangeSpec := { name := "irTells", fn := fun _ => fun
  | [d] => { results := [.lit (.bool true)], args := [d] }
  | _ => none }
def irTellsRow : OpenClaim := { program := "ytcofoeenfohpnaa", sum := "a5965bca16077c3e0658e354310edcf1d49a29475583c2dca7402ceeaf049716", func := "intarsia/intarsialaw03.IrTells", spec := "irTells", unfollowed := true, recurses := true, apart := false }
def IrTellsSaid : Prop := irTellsRow.holds Try.pinned (OpenSpec.ofChange irTellsSpec)

/-- ITS FALSE NEIGHBOUR: 'it returns false'. Refute it at one input. -/
def irTellsWrong : ChangeSpec := { name := "irTells", fn := fun _ => fun
  | [d] => { results := [.lit (.bool false)], args := [d] }
  | _ => none }
def IrTellsWrongFalsely : Prop := irTellsRow.holds Try.pinned (OpenSpec.ofChange irTellsWrong)

/-- 'intarsialaw03.IrSafe': WHATEVER THE INPUT: true; the input reads as it did. -/
def irSafeSpec : ChangeSpec := { name := "irSafe", fn := fun _ => fun
  | [d1, d2] => { results := [.lit (.bool true)], args := [d1, d2] }
  | _ => none }
def irSafeRow : OpenClaim := { program := "ytcofoeenfohpnaa", sum := "a5965bca16077c3e0658e354310edcf1d49a29475583c2dca7402ceeaf049716", func := "intarsia/intarsialaw03.IrSafe", spec := "irSafe", unfollowed := true, recurses := true, apart := false }
def IrSafeSaid : Prop := irSafeRow.holds Try.pinned (OpenSpec.ofChange irSafeSpec)

/-- ITS FALSE NEIGHBOUR: 'it returns false'. Refute it at one input. -/
def irSafeWrong : ChangeSpec := { name := "irSafe", fn := fun _ => fun
  | [d1, d2] => { results := [.lit (.bool false)], args := [d1, d2] }
  | _ => none }
def IrSafeWrongFalsely : Prop := irSafeRow.holds Try.pinned (OpenSpec.ofChange irSafeWrong)

/-- 'intarsialaw03.IrRenames': WHATEVER THE INPUT: true; the input reads as it did. -/
def irRenamesSpec : ChangeSpec := { name := "irRenames", fn := fun _ => fun
  | [d1, d2] => { results := [.lit (.bool true)], args := [d1, d2] }
  | _ => none }
def irRenamesRow : OpenClaim := { program := "ytcofoeenfohpnaa", sum := "a5965bca16077c3e0658e354310edcf1d49a29475583c2dca7402ceeaf049716", func := "intarsia/intarsialaw03.IrRenames", spec := "irRenames", unfollowed := true, recurses := true, apart := false }
def IrRenamesSaid : Prop := irRenamesRow.holds Try.pinned (OpenSpec.ofChange irRenamesSpec)

/-- ITS FALSE NEIGHBOUR: 'it returns false'. Refute it at one input. -/
def irRenamesWrong : ChangeSpec := { name := "irRenames", fn := fun _ => fun
  | [d1, d2] => { results := [.lit (.bool false)], args := [d1, d2] }
  | _ => none }
def IrRenamesWrongFalsely : Prop := irRenamesRow.holds Try.pinned (OpenSpec.ofChange irRenamesWrong)

/- THE SECOND FORM. 'bulk': how many values and letters a reading holds, each counted each time it is reached (what is shared counts as often as it is met; a slice's spare places count too). A statement '..UptoSaid' is the law's where the arguments, and the package variables that the reading takes, are together of bulk at most 1048576: NARROWER than '..Said'. Prove '..Said' where nothing that the law and all that it calls make is longer than what came in: it says more and counts as full. Else prove '..UptoSaid'. A law counts once. -/
mutual
def uptoBulk {H : Type} : DataW H → Nat
  | .lit (.string bytes) => bytes.length + 1
  | .lit _ => 1
  | .nil => 1
  | .ptr d => uptoBulk d + 1
  | .slice elems spare => uptoBulkAll elems + uptoBulkAll spare + 1
  | .agg parts => uptoBulkAll parts + 1
  | .iface _ d => uptoBulk d + 1
  | .map entries => uptoBulkEntries entries + 1
  | .held _ => 1
def uptoBulkAll {H : Type} : List (DataW H) → Nat
  | [] => 0
  | d :: r => uptoBulk d + uptoBulkAll r
def uptoBulkEntries {H : Type} : List (Lit × DataW H) → Nat
  | [] => 0
  | x :: r => uptoBulkEntry x + uptoBulkEntries r
def uptoBulkEntry {H : Type} : Lit × DataW H → Nat
  | (.string bytes, d) => bytes.length + uptoBulk d + 1
  | (_, d) => uptoBulk d + 1
 end
def uptoSmall : (H : Type) → List (DataW H) → Bool := fun _ ds => decide (uptoBulkAll ds ≤ 1048576)
def OpenSpec.upto (s : _root_.Go.ChangeSpec) : _root_.Go.OpenSpec := { _root_.Go.OpenSpec.ofChange s with cond := some uptoSmall }

/-- 'intarsialaw03.IrParts', WHERE WHAT IT READS IS OF BULK AT MOST 1048576: true; the input reads as it did. -/
def irPartsUptoRow : OpenClaim := { program := "ytcofoeenfohpnaa", sum := "a5965bca16077c3e0658e354310edcf1d49a29475583c2dca7402ceeaf049716", func := "intarsia/intarsialaw03.IrParts", spec := "irParts", unfollowed := true, recurses := true, apart := false, narrowed := true }
def IrPartsUptoSaid : Prop := irPartsUptoRow.holds Try.pinned (OpenSpec.upto irPartsSpec)

/-- 'intarsialaw03.IrTells', WHERE WHAT IT READS IS OF BULK AT MOST 1048576: true; the input reads as it did. -/
def irTellsUptoRow : OpenClaim := { program := "ytcofoeenfohpnaa", sum := "a5965bca16077c3e0658e354310edcf1d49a29475583c2dca7402ceeaf049716", func := "intarsia/intarsialaw03.IrTells", spec := "irTells", unfollowed := true, recurses := true, apart := false, narrowed := true }
def IrTellsUptoSaid : Prop := irTellsUptoRow.holds Try.pinned (OpenSpec.upto irTellsSpec)

/-- 'intarsialaw03.IrSafe', WHERE WHAT IT READS IS OF BULK AT MOST 1048576: true; the input reads as it did. -/
def irSafeUptoRow : OpenClaim := { program := "ytcofoeenfohpnaa", sum := "a5965bca16077c3e0658e354310edcf1d49a29475583c2dca7402ceeaf049716", func := "intarsia/intarsialaw03.IrSafe", spec := "irSafe", unfollowed := true, recurses := true, apart := false, narrowed := true }
def IrSafeUptoSaid : Prop := irSafeUptoRow.holds Try.pinned (OpenSpec.upto irSafeSpec)

/-- 'intarsialaw03.IrRenames', WHERE WHAT IT READS IS OF BULK AT MOST 1048576: true; the input reads as it did. -/
def irRenamesUptoRow : OpenClaim := { program := "ytcofoeenfohpnaa", sum := "a5965bca16077c3e0658e354310edcf1d49a29475583c2dca7402ceeaf049716", func := "intarsia/intarsialaw03.IrRenames", spec := "irRenames", unfollowed := true, recurses := true, apart := false, narrowed := true }
def IrRenamesUptoSaid : Prop := irRenamesUptoRow.holds Try.pinned (OpenSpec.upto irRenamesSpec)

end Rows
end Go.Proofs.Ytcofoeenfohpnaa
