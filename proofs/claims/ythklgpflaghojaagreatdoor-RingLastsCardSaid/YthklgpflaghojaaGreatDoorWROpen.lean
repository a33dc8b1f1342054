/-
  The contract of the document's Open.
-/
import Derived.Test.YthklgpflaghojaaGreatDoorWPD
import Derived.Test.YthklgpflaghojaaGreatDoorWRObj
import Derived.Test.YthklgpflaghojaaGreatDoorWPB
import Derived.Test.YthklgpflaghojaaGreatDoorQX1
import Derived.Deep.RegionHeld
namespace Go.Proofs.YthklgpflaghojaaGreatDoor
open Go.RowKit
end Go.Proofs.YthklgpflaghojaaGreatDoor
