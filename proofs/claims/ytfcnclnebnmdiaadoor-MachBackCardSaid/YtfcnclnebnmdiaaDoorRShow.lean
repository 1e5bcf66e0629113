/-
  The document's words as a text: the document's function answers what the plain function of package word's own answers. No condition beyond those that each theorem states.
-/
import Derived.Test.YtfcnclnebnmdiaaDoorRight
import Derived.Test.YtfcnclnebnmdiaaDoorShow
namespace Go.Proofs.YtfcnclnebnmdiaaDoor
open Go.RowKit

/-- Whether a word stands right ahead of word number k, in its line. -/
def inl (ws : List Wd) : Nat → Bool
  | 0 => false
  | k + 1 => match ws[k]? with | some y => decide (y.k ≠ 4) | none => false

end Go.Proofs.YtfcnclnebnmdiaaDoor
