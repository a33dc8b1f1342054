/-
  QX8: JRValue JRParse, side by side.
-/
import Derived.Test.YthklgpflaghojaaGreatDoorQX7
import Derived.Test.YthklgpflaghojaaGreatDoorQX6
import Derived.Test.YthklgpflaghojaaGreatDoorQX4
import Derived.Test.YthklgpflaghojaaGreatDoorQK

/-
  The document's value, at every depth.
-/
namespace Go.Proofs.YthklgpflaghojaaGreatDoor
open Go.RowKit

/-- What a reading function hands on. -/
theorem GotEnd.pass {S : List Nat} {i p : Nat} {res : Jq.R Jq.J} {w W0 w1 : World} {e : Ending} (h : GotEnd S p res W0 e w1) (hb0 : Below w.heap.size w W0) (hG : w.heap.size < W0.heap.size) (hip : i ≤ p) :
    ∃ k b m t A1 n1 c1 A2 n2 c2 at_ er, e = .returned (gotV k b m t (.slice A1 n1 c1) (.slice A2 n2 c2) at_ er) ∧ Below W0.heap.size W0 w1 ∧ ∀ a0 a1 a2 a3 a4 a5 a6 a7, GotEnd S i res w (.returned (gotV k b m t (.slice A1 n1 c1) (.slice A2 n2 c2) at_ er)) (put8 w1 w.heap.size a0 a1 a2 a3 a4 a5 a6 a7) := by
  rcases h.cases with ⟨x, r, A1, c1, A2, c2, j, hr, he, hJ, hd, hj, hpj, hb⟩ | ⟨n, hr, hn, ⟨k, b, m, t, A1, n1, c1, A2, n2, c2, at_, he⟩, hb⟩
  · refine ⟨_, _, _, _, _, _, _, _, _, _, _, _, he, hb, fun a0 a1 a2 a3 a4 a5 a6 a7 => ?_⟩
    exact got_ok hr hJ hG hd hj (Nat.le_trans hip hpj) (below_more hb0 hb)
  · refine ⟨_, _, _, _, _, _, _, _, _, _, _, _, he, hb, fun a0 a1 a2 a3 a4 a5 a6 a7 => ?_⟩
    exact got_err hr hn (below_more hb0 hb)

end Go.Proofs.YthklgpflaghojaaGreatDoor

/-
  The document's Parse.
-/
namespace Go.Proofs.YthklgpflaghojaaGreatDoor
open Go.RowKit
end Go.Proofs.YthklgpflaghojaaGreatDoor
