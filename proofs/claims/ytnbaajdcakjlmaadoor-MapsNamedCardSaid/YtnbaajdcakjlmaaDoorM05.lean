/-
  M05: MRight, side by side.
-/
import Derived.Test.YtnbaajdcakjlmaaDoorQI

/-
  json.Right: whether a value can be written.
-/
namespace Go.Proofs.YtnbaajdcakjlmaaDoor
open Go.RowKit

set_option maxHeartbeats 1000000 in
set_option maxRecDepth 100000 in
theorem right_any {ok : Nat → Prop} (v : Value) (x : Jq.J) (w : World) (hH : Held w) (hJ : IsJ w ok v x) :
    Calls Tryd.prog 27 #[v] w fun e w' => e = .returned (.bool (Jq.valueP 16 [] x).isSome) ∧ Below w.heap.size w w' := by
  obtain ⟨A1, c1, A2, c2, rfl⟩ := hJ.form
  have hb0 : ∀ o, Below w.heap.size w (w.alloc o) := fun o => (Below.refl _ _).alloc (Nat.le_refl _) o
  have hv := print_any _ x (w.alloc (.cells #[.int .i64 x.kind, .bool x.bool, .int .i64 x.int, .string (strOf x.text), .slice A1 x.names.length c1, .slice A2 x.list.length c2] 27)) (hH.below (hb0 _)) (hJ.on (hb0 _))
  have HB0 := Lib.hid hb0
  clear hb0 hJ hH
  go_enter Tryd.func27, Tryd.ntmps27
  go_wp2_with fail
  refine hv.mono ?_
  intro e w1 hh
  clear hv
  rcases PrintEnd.cases hh with ⟨B, hr, rfl, _, _, hb⟩ | ⟨hr, rfl, hb⟩
  all_goals
    have hbw := (HB0.out _).trans (hb.mono (HB0.out _).size)
    have HR := Lib.hid hr
    clear hh hr hb
    go_wp2
    go_ret
    exact ⟨by rw [HR.out]; rfl, hbw⟩
end Go.Proofs.YtnbaajdcakjlmaaDoor
