/-
  The law TypesFits.
-/
import Derived.Test.YtgoecghakiihpaaDoorKRefFits
import Derived.Test.YtgoecghakiihpaaDoorKAlive
import Derived.BigQuiet
import Derived.Lib.QuietBelow
namespace Go.Proofs.YtgoecghakiihpaaDoor
open Go.RowKit Go.Sort

set_option maxHeartbeats 2000000 in
set_option maxRecDepth 100000 in
theorem lawFits_any {ok : Nat → Prop} (x : Jq.J) (t : Int) (A1 A2 : Option Addr) (c1 c2 : Nat) (w : World) (hH : HeldK w) (hL : ListIs w ok (.slice A2 x.list.length c2) x.list) :
    Calls Tryd.prog 6 #[jv x.kind x.bool x.int (strOf x.text) (.slice A1 x.names.length c1) (.slice A2 x.list.length c2), .int .i64 t] w (IsTrue w) := by
  obtain ⟨W1, eW1⟩ : ∃ W1, W1 = w.alloc (jbox x A1 c1 A2 c2) := ⟨_, rfl⟩
  have hb1 : Below w.heap.size w W1 := by rw [eW1]; exact below_new _ _
  obtain ⟨z0, z1, z2, z3, z4, z5⟩ := IsJ.sixK eW1
  have k0 := cell_regrown z0
  have k1 := cell_regrown z1
  have k2 := cell_regrown z2
  have k3 := cell_regrown z3
  have k4 := cell_regrown z4
  have k5 := cell_regrown z5
  obtain ⟨K, eK⟩ : ∃ K, decide (Tq.fitsP x t) = K := ⟨_, rfl⟩
  have cA : ∀ d os, Calls Tryd.prog 10 #[] (grow (redrawn W1 d) os) fun e w2 => e = .returned (.bool true) ∧ ∃ r : Regrown, w2 = grow (redrawn W1 r.d) r.os := fun d os => Calls.regrown_of ((alive12_any _ (hH.below (below_onZ hb1 (below_regrown W1 d os)))).mono fun e w' h => ⟨h.1, h.2⟩)
  have cF : ∀ d os, Calls Tryd.prog 13 #[jv x.kind x.bool x.int (strOf x.text) (.slice A1 x.names.length c1) (.slice A2 x.list.length c2), .int .i64 t] (grow (redrawn W1 d) os) fun e w2 => e = .returned (.bool K) ∧ ∃ r : Regrown, w2 = grow (redrawn W1 r.d) r.os := fun d os => Calls.regrown_of ((fits_any x t A1 A2 c1 c2 _ (hL.onK (below_onZ hb1 (below_regrown W1 d os)))).mono fun e w' h => ⟨by rw [← eK]; exact h.2, h.1⟩)
  have cR : ∀ d os, Calls Tryd.prog 14 #[jv x.kind x.bool x.int (strOf x.text) (.slice A1 x.names.length c1) (.slice A2 x.list.length c2), .int .i64 t] (grow (redrawn W1 d) os) fun e w2 => e = .returned (.bool K) ∧ ∃ r : Regrown, w2 = grow (redrawn W1 r.d) r.os := fun d os => Calls.regrown_of ((refFits_any x t A1 A2 c1 c2 _ (hL.onK (below_onZ hb1 (below_regrown W1 d os)))).mono fun e w' h => ⟨by rw [← eK]; exact h.2, h.1⟩)
  have HB1 := Lib.hid hb1
  have HW1 := Lib.hid eW1
  have g1 : (K == K) = true := by simp
  clear hH hL hb1 z0 z1 z2 z3 z4 z5 eW1 eK
  go_enter Tryd.func6, Tryd.ntmps6
  go_upto_region 1 with (fail)
  rw [← HW1.out]
  refine wp_region_quiet_below (by kernel_rfl) (by kernel_rfl) ?_
  repeat (go_big_quiet_step (first | with_reducible exact cA _ _ | with_reducible exact cF _ _ | with_reducible exact cR _ _))
  refine wpQuiet_nil ?_
  intro w' hw'
  obtain ⟨⟨dq, osq⟩, hw''⟩ := hw'
  subst hw''
  have hfin := below_regrown W1 dq osq
  have HE : Hid (IsTrue w (.returned (.bool true)) (grow (redrawn W1 dq) osq)) := ⟨rfl, below_onZ HB1.out hfin⟩
  generalize hWq : grow (redrawn W1 dq) osq = W6 at HE ⊢
  clear cA cF cR k0 k1 k2 k3 k4 k5 hfin hWq
  go_wp2
  go_ret
  exact HE.out
end Go.Proofs.YtgoecghakiihpaaDoor
