/-
  The walk of the law BaseWrites.
-/
import Derived.Test.YtejjjhehfpeilaaBRefE
namespace Go.Proofs.Ytejjjhehfpeilaa
open Go.RowKit

set_option maxHeartbeats 400000 in
set_option maxRecDepth 100000 in
theorem lawWrites (q : List Nat) (A : Option Addr) (c : Nat) (w : World) (hq : ArgIs w A c q) (hn : q.length ≤ 1048576) :
    Calls Try.prog 3 #[.slice A q.length c] w fun e w' => e = .returned (.bool true) ∧ Below w.heap.size w w' := by
  go_enter Try.func3, Try.ntmps3
  go_wp2_with fail
  refine (alive_any w).mono ?_
  rintro e w1 ⟨rfl, hb1⟩
  have hq1 := hq.below hb1 (Nat.le_refl _)
  go_wp2_with fail
  refine (encode_any q A c w1 hq1 (by omega)).mono ?_
  rintro e w2 ⟨rfl, hb2⟩
  have hq2 := hq1.below hb2 (Nat.le_refl _)
  have hb02 : Below w.heap.size w w2 := hb1.trans (hb2.mono hb1.size)
  clear hb1 hb2 hq1
  go_wp2_with fail
  refine (refEncode_any q A c w2 hq2 hn).mono ?_
  rintro e w3 ⟨rfl, hb3⟩
  have hb03 : Below w.heap.size w w3 := hb02.trans (hb3.mono hb02.size)
  have hse : ((strOf (B64.enc q)).toList == (strOf (B64.enc q)).toList) = true := by simp
  clear hb02 hb3 hq2 hq
  go_wp2
  go_ret
  exact ⟨rfl, hb03⟩
end Go.Proofs.Ytejjjhehfpeilaa
