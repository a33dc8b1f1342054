/-
  The walk of the law DigestMacs.
-/
import Derived.Test.YtkfhfokeoieajaaDoorRefMac
import Derived.Test.YtkfhfokeoieajaaDoorAlive
import Derived.Test.YtkfhfokeoieajaaDoorEq
namespace Go.Proofs.YtkfhfokeoieajaaDoor
open Go.RowKit

set_option maxHeartbeats 400000 in
set_option maxRecDepth 100000 in
theorem lawMacs (k q : List Nat) (A A' : Option Addr) (c c' : Nat) (w : World) (hT : Tab w) (hk : ArgIs w A c k) (hq : ArgIs w A' c' q) (hn : k.length ≤ 140737488351232) (hn' : q.length ≤ 140737488351232) :
    Calls Tryd.prog 4 #[.slice A k.length c, .slice A' q.length c'] w fun e w' => e = .returned (.bool true) ∧ Below w.heap.size w w' := by
  go_enter Tryd.func4, Tryd.ntmps4
  go_wp2_with fail
  refine (alive_any w hT).mono ?_
  rintro e w1 ⟨rfl, hb1⟩
  have hT1 := hT.below hb1 hT.lt
  have hk1 := hk.below hb1 (Nat.le_refl _)
  have hq1 := hq.below hb1 (Nat.le_refl _)
  go_wp2_with fail
  refine (mac_any k q A A' c c' w1 hT1 hk1 hq1 (by omega) (by omega)).mono ?_
  rintro e w2 ⟨rfl, hb2⟩
  have hb12 : Below w.heap.size w w2 := hb1.trans (hb2.mono hb1.size)
  have hk2 := hk.below hb12 (Nat.le_refl _)
  have hq2 := hq.below hb12 (Nat.le_refl _)
  go_wp2_with fail
  refine (refMac_any k q A A' c c' w2 hk2 hq2 (by omega) (by omega)).mono ?_
  rintro e w3 ⟨rfl, hb3⟩
  have hb13 : Below w.heap.size w w3 := hb12.trans (hb3.mono hb12.size)
  have he := eq_digest (Sha.mac k q) (Sha.sum_length _)
  obtain ⟨D, hD⟩ : ∃ D, u8s (Sha.mac k q) = D := ⟨_, rfl⟩
  rw [hD] at he ⊢
  clear hD hb3 hb12 hq2 hk2 hb2 hq1 hk1 hT1 hb1 hq hk
  go_wp2
  go_ret
  exact ⟨rfl, hb13⟩
end Go.Proofs.YtkfhfokeoieajaaDoor
