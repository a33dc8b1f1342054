/-
  The laws JsonPrints and JsonRight, whole.
-/
import Derived.Test.YtndkangfnojpoaaGreatDoorJLawPrints
import Derived.Test.YtndkangfnojpoaaGreatDoorJForm
namespace Go.Proofs.YtndkangfnojpoaaGreatDoor
open Go.RowKit

theorem formOk : FormOk := fun _ lv h v x w hJ => form_any lv h v x w hJ
theorem lawPrints_any (x : Jq.J) (v : Value) (w : World) (hH : Held w) (hJ : IsJ w (fun _ => True) v x) :
    Calls Tryz.prog 4 #[v] w (IsTrue w) := lawPrints_of formOk x v w hH hJ
theorem lawRight_any (x : Jq.J) (v : Value) (w : World) (hH : Held w) (hJ : IsJ w (fun _ => True) v x) :
    Calls Tryz.prog 5 #[v] w (IsTrue w) := lawRight_of formOk x v w hH hJ
end Go.Proofs.YtndkangfnojpoaaGreatDoor
