/-
  The contract of the document's object.
-/
import Derived.Test.YthklgpflaghojaaGreatDoorWPC
import Derived.Test.YthklgpflaghojaaGreatDoorQT2
import Derived.Test.YthklgpflaghojaaGreatDoorQX8
import Derived.Deep.RegionLaw
namespace Go.Proofs.YthklgpflaghojaaGreatDoor
open Go.RowKit
end Go.Proofs.YthklgpflaghojaaGreatDoor
