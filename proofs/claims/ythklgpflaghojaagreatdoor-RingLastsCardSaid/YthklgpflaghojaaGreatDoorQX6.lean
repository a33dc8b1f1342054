/-
  QX6: JRNumber, side by side.
-/
import Derived.Test.YthklgpflaghojaaGreatDoorQX4

/-
  The document's number.
-/
namespace Go.Proofs.YthklgpflaghojaaGreatDoor
open Go.RowKit
end Go.Proofs.YthklgpflaghojaaGreatDoor
