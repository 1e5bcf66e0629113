/-
  What an instruction and an end of a target read and write; what is inserted; how great a target is: package mir's own answers. No condition beyond those that each theorem states.
-/
import Derived.Test.YtjmdgbgjleeloaaGreatDoorQk9
import Derived.Test.YtjmdgbgjleeloaaGreatDoorPk7
namespace Go.Proofs.YtjmdgbgjleeloaaGreatDoor
open Go.RowKit

end Go.Proofs.YtjmdgbgjleeloaaGreatDoor
