/-
  QE: JItemL, side by side.
-/
import Derived.Test.YtoocejcoaojaiaaDoorQD

/-
  The closure of the reader's list: one element more.
-/
namespace Go.Proofs.YtoocejcoaojaiaaDoor
open Go.RowKit
end Go.Proofs.YtoocejcoaojaiaaDoor
