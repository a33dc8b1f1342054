/-
  The law package's alive: it answers true.
-/
import Derived.Test.YtoocejcoaojaiaaDoorVMake
import Derived.Test.YtoocejcoaojaiaaDoorVCheck
namespace Go.Proofs.YtoocejcoaojaiaaDoor
open Go.RowKit

abbrev alQ : Vq.Want := ⟨[105], [99], [110], 5, 0⟩
abbrev alQ2 : Vq.Want := ⟨[105], [99], [], 10, 0⟩
abbrev al0 : Jq.J := .mk 0 false 0 [] [] []
abbrev alM : Jq.J := Vq.objOf (Vq.rows alQ [115] 5 al0)
theorem al_make : Vq.makeP alQ [115] 5 al0 = some alM := by kernel_rfl
theorem al_check : Vq.check alM alQ = 0 := by kernel_rfl
theorem al_check2 : Vq.check alM alQ2 = 103 := by kernel_rfl
theorem al_kind : alM.kind = 5 ∧ alM.bool = false ∧ alM.int = 0 ∧ alM.text = [] ∧ alM.names.length = 6 ∧ alM.list.length = 6 := by refine ⟨?_, ?_, ?_, ?_, ?_, ?_⟩ <;> kernel_rfl

set_option maxHeartbeats 1000000 in
set_option maxRecDepth 100000 in
theorem alive10_any (w : World) (hH : Held w) : Calls Tryd.prog 10 #[] w (fun e w' => e = .returned (.bool true) ∧ Below w.heap.size w w') := by
  obtain ⟨W0, eW0⟩ : ∃ W0, W0 = w.alloc (.cells #[.string { data := #[105] }, .string { data := #[99] }, .string { data := #[110] }, .int .i64 5, .int .i64 0] 30) := ⟨_, rfl⟩
  have hb0 : Below w.heap.size w W0 := by rw [eW0]; exact one_alloc _ _
  have hl0 : Lies W0 w.heap.size 30 [.string { data := #[105] }, .string { data := #[99] }, .string { data := #[110] }, .int .i64 5, .int .i64 0] := by rw [eW0]; exact Lies.new_ rfl
  have hM := make_any (ok := fun _ => True) (q := alQ) (sub := [115]) (life := 5) al0 (jv 0 false 0 ByteArray.empty nilS nilS) W0 (hH.below hb0) ⟨by decide, by decide, by decide, by decide, by decide⟩ (by decide) (isJ_plain (t := []) W0 _ (by omega) (by omega) (by decide)) (by decide)
  rw [al_make] at hM
  rw [eW0] at hM
  have HW0 := Lib.hid eW0
  have HB0 := Lib.hid hb0
  have HL0 := Lib.hid hl0
  clear eW0 hb0 hl0 hH
  have hAdd : ∀ W, Calls Tryd.prog 11 #[.int .i64 1099511627776, .int .i64 1] W fun e W' => W = W' ∧ e = .returned (.int .i64 1099511627776) := fun W => cadd_any _ _ W
  have HADD := Lib.hid hAdd
  clear hAdd
  go_enter Tryd.func10, Tryd.ntmps10
  go_wp2_with fail
  refine hM.mono ?_
  rintro e w1 ⟨hb1, u, rfl, hJ⟩
  clear hM
  rw [← HW0.out] at hb1 hJ
  obtain ⟨A1, c1, A2, c2, rfl⟩ : ∃ A1 c1 A2 c2, u = jv 5 false 0 ByteArray.empty (.slice A1 6 c1) (.slice A2 6 c2) := by
    obtain ⟨A1, c1, A2, c2, h⟩ := hJ.form
    obtain ⟨k1, k2, k3, k4, k5, k6⟩ := al_kind
    rw [k1, k2, k3, k4, k5, k6] at h
    exact ⟨A1, c1, A2, c2, h⟩
  obtain ⟨W1, eW1⟩ : ∃ W1, W1 = w1.alloc (.cells #[.int .i64 5, .bool false, .int .i64 0, .string ByteArray.empty, .slice A1 6 c1, .slice A2 6 c2] 28) := ⟨_, rfl⟩
  have hbW : Below w1.heap.size w1 W1 := by rw [eW1]; exact one_alloc _ _
  have hl1 : Lies W1 w1.heap.size 28 [.int .i64 5, .bool false, .int .i64 0, .string ByteArray.empty, .slice A1 6 c1, .slice A2 6 c2] := by rw [eW1]; exact Lies.new_ rfl
  have hw1 := (HL0.out.below hb1 HL0.out.lt).below hbW (HL0.out.below hb1 HL0.out.lt).lt
  have HJ := Lib.hid (hJ.on hbW)
  have HB1 := Lib.hid (below_more (below_more HB0.out hb1) hbW)
  have HL1 := Lib.hid hl1
  have HWT1 := Lib.hid hw1
  have HW1 := Lib.hid eW1
  clear hb1 hJ hbW hl1 hw1 eW1
  go_upto_region 3 with (fail)
  rw [← HW1.out]
  obtain ⟨⟨z0, z1, z2, z3, z4, z5⟩, _⟩ := HL1.out.six
  have y0 := HWT1.out.cell 0
  have y1 := HWT1.out.cell 1
  have y2 := HWT1.out.cell 2
  have y3 := HWT1.out.cell 3
  have y4 := HWT1.out.cell 4
  simp only [List.getElem?_cons_zero, List.getElem?_cons_succ] at y0 y1 y2 y3 y4
  have hC := check_any (q := alQ) alM _ W1 ⟨by decide, by decide, by decide, by decide, by decide⟩ HJ.out
  rw [al_check] at hC
  go_wp2_with fail
  refine hC.mono ?_
  rintro e W2 ⟨rfl, hb⟩
  clear hC z0 z1 z2 z3 z4 z5 y0 y1 y2 y3 y4
  have HB2 := Lib.hid (below_more HB1.out hb)
  have HL2 := Lib.hid (HL1.out.below hb HL1.out.lt)
  have HJ2 := Lib.hid (HJ.out.on hb)
  clear hb
  obtain ⟨⟨z0, z1, z2, z3, z4, z5⟩, _⟩ := HL2.out.six
  have hC := check_any (q := alQ2) alM _ W2 ⟨by decide, by decide, by decide, by decide, by decide⟩ HJ2.out
  rw [al_check2] at hC
  go_wp2_with fail
  refine hC.mono ?_
  rintro e W3 ⟨rfl, hb⟩
  clear hC z0 z1 z2 z3 z4 z5
  have HB3 := Lib.hid (below_more HB2.out hb)
  clear hb
  go_wp2_with fail
  refine (HADD.out _).mono ?_
  rintro e W4 ⟨rfl, rfl⟩
  go_wp2
  go_ret
  exact ⟨rfl, HB3.out⟩
end Go.Proofs.YtoocejcoaojaiaaDoor
