/-
  The walk of the law DigestSums.
-/
import Derived.Test.YtkfhfokeoieajaaDoorRefSum
import Derived.Test.YtkfhfokeoieajaaDoorAlive
import Derived.Test.YtkfhfokeoieajaaDoorEq
namespace Go.Proofs.YtkfhfokeoieajaaDoor
open Go.RowKit

set_option maxHeartbeats 400000 in
set_option maxRecDepth 100000 in
theorem lawSums (q : List Nat) (A : Option Addr) (c : Nat) (w : World) (hT : Tab w) (hq : ArgIs w A c q) (hn : q.length ≤ 140737488351232) :
    Calls Tryd.prog 3 #[.slice A q.length c] w fun e w' => e = .returned (.bool true) ∧ Below w.heap.size w w' := by
  go_enter Tryd.func3, Tryd.ntmps3
  go_wp2_with fail
  refine (alive_any w hT).mono ?_
  rintro e w1 ⟨rfl, hb1⟩
  have hT1 := hT.below hb1 hT.lt
  have hq1 := hq.below hb1 (Nat.le_refl _)
  go_wp2_with fail
  refine (sum_any q A c w1 hT1 hq1 (by omega)).mono ?_
  rintro e w2 ⟨rfl, hb2⟩
  have hb12 : Below w.heap.size w w2 := hb1.trans (hb2.mono hb1.size)
  have hq2 := hq.below hb12 (Nat.le_refl _)
  go_wp2_with fail
  refine (refSum_any q A c w2 hq2 (by omega)).mono ?_
  rintro e w3 ⟨rfl, hb3⟩
  have hb13 : Below w.heap.size w w3 := hb12.trans (hb3.mono hb12.size)
  have he := eq_digest (Sha.sum q) (Sha.sum_length q)
  obtain ⟨D, hD⟩ : ∃ D, u8s (Sha.sum q) = D := ⟨_, rfl⟩
  rw [hD] at he ⊢
  clear hD hb3 hb12 hq2 hb2 hq1 hT1 hb1 hq
  go_wp2
  go_ret
  exact ⟨rfl, hb13⟩
end Go.Proofs.YtkfhfokeoieajaaDoor
