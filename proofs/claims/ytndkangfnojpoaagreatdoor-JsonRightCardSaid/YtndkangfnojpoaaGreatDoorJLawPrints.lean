/-
  The document's Print; the program's Right; the laws JsonPrints and JsonRight.
-/
import Derived.Test.YtndkangfnojpoaaGreatDoorJRPrint
import Derived.Test.YtndkangfnojpoaaGreatDoorQK
namespace Go.Proofs.YtndkangfnojpoaaGreatDoor
open Go.RowKit

set_option maxHeartbeats 2000000 in
theorem refPrint_any (HFO : FormOk) {ok : Nat → Prop} (v : Value) (x : Jq.J) (w : World) (hJ : IsJ w ok v x) :
    Calls Tryz.prog 15 #[v] w (PrintEnd (Jq.valueP 16 [] x) w) := by
  obtain ⟨A1, c1, A2, c2, rfl⟩ := hJ.form
  have hb0 : ∀ o, Below w.heap.size w (w.alloc o) := fun o => (Below.refl _ _).alloc (Nat.le_refl _) o
  have hv := print_all HFO 16 (Nat.le_refl _) ok _ x (w.alloc (.cells #[.int .i64 x.kind, .bool x.bool, .int .i64 x.int, .string (strOf x.text), .slice A1 x.names.length c1, .slice A2 x.list.length c2] 25)) (hJ.on (hb0 _))
  rw [show ((16 - 16 : Nat) : Int) = 0 from rfl] at hv
  have hrp := Jq.rp_valueP x
  obtain ⟨RES, eRES⟩ : ∃ RES, Jq.valueP 16 [] x = RES := ⟨_, rfl⟩
  obtain ⟨RP, eRP⟩ : ∃ RP, Jq.rp 16 x = RP := ⟨_, rfl⟩
  rw [eRES, eRP] at hrp
  rw [eRP] at hv
  rw [eRES]
  have HRP := Lib.hid hrp
  have HB0 := Lib.hid hb0
  clear eRES eRP hrp hb0 hJ
  go_enter Tryz.func15, Tryz.ntmps15
  go_wp2_with fail
  refine hv.mono ?_
  intro e w1 hh
  clear hv
  rcases RPEnd.cases hh with ⟨y, hr, rfl, hyb, hyl, hb⟩ | ⟨sx, hr, rfl, hb⟩
  · have hbw := (HB0.out _).trans (hb.mono (HB0.out _).size)
    have hsz : ((strOf y).size : Int) = (y.length : Int) := by rw [strOf_size]
    by_cases hl : y.length ≤ 4096
    · have d : decide ((4096 : Int) < ((strOf y).size : Int)) = false := decide_eq_false (by omega)
      have HE : Hid (PrintEnd RES w (.returned (.tuple #[.string (strOf y), .bool true])) w1) := ⟨hbw, by rw [← HRP.out, hr]; simp only; rw [if_pos hl]; exact ⟨rfl, hyb, hl⟩⟩
      clear hh hr hyb hyl hb hbw hsz hl
      go_wp2
      go_ret2
      exact HE.out
    · have d : decide ((4096 : Int) < ((strOf y).size : Int)) = true := decide_eq_true (by omega)
      have HE : Hid (PrintEnd RES w (.returned (.tuple #[.string ByteArray.empty, .bool false])) w1) := ⟨hbw, by rw [← HRP.out, hr]; simp only; rw [if_neg hl]; trivial⟩
      clear hh hr hyb hyl hb hbw hsz hl
      go_wp2
      go_ret2
      exact HE.out
  · have HE : Hid (PrintEnd RES w (.returned (.tuple #[.string ByteArray.empty, .bool false])) w1) := ⟨(HB0.out _).trans (hb.mono (HB0.out _).size), by rw [← HRP.out, hr]⟩
    clear hh hr hb
    go_wp2
    go_ret2
    exact HE.out
theorem right_any {ok : Nat → Prop} (v : Value) (x : Jq.J) (w : World) (hH : Held w) (hJ : IsJ w ok v x) :
    Calls Tryz.prog 16 #[v] w fun e w' => e = .returned (.bool (Jq.valueP 16 [] x).isSome) ∧ Below w.heap.size w w' := by
  obtain ⟨A1, c1, A2, c2, rfl⟩ := hJ.form
  have hb0 : ∀ o, Below w.heap.size w (w.alloc o) := fun o => (Below.refl _ _).alloc (Nat.le_refl _) o
  have hv := print_any _ x (w.alloc (.cells #[.int .i64 x.kind, .bool x.bool, .int .i64 x.int, .string (strOf x.text), .slice A1 x.names.length c1, .slice A2 x.list.length c2] 25)) (hH.below (hb0 _)) (hJ.on (hb0 _))
  have HB0 := Lib.hid hb0
  clear hb0 hJ hH
  go_enter Tryz.func16, Tryz.ntmps16
  go_wp2_with fail
  refine hv.mono ?_
  intro e w1 hh
  clear hv
  rcases PrintEnd.cases hh with ⟨B, hr, rfl, _, _, hb⟩ | ⟨hr, rfl, hb⟩
  all_goals
    have hbw := (HB0.out _).trans (hb.mono (HB0.out _).size)
    have HR := Lib.hid hr
    clear hh hr hb
    go_wp2
    go_ret
    exact ⟨by rw [HR.out]; rfl, hbw⟩

set_option maxHeartbeats 4000000 in
set_option maxRecDepth 100000 in
theorem lawPrints_of (HFO : FormOk) (x : Jq.J) (v : Value) (w : World) (hH : Held w) (hJ : IsJ w (fun _ => True) v x) :
    Calls Tryz.prog 4 #[v] w (IsTrue w) := by
  obtain ⟨A1, c1, A2, c2, rfl⟩ := hJ.form
  obtain ⟨W0, eW0⟩ : ∃ W0, W0 = w.alloc (.cells #[.int .i64 x.kind, .bool x.bool, .int .i64 x.int, .string (strOf x.text), .slice A1 x.names.length c1, .slice A2 x.list.length c2] 25) := ⟨_, rfl⟩
  have hb0 : Below w.heap.size w W0 := by rw [eW0]; exact (Below.refl _ _).alloc (Nat.le_refl _) _
  have hl0 : Lies W0 w.heap.size 25 [.int .i64 x.kind, .bool x.bool, .int .i64 x.int, .string (strOf x.text), .slice A1 x.names.length c1, .slice A2 x.list.length c2] := by rw [eW0]; exact Lies.new_ rfl
  have hS := small_any x _ W0 (hJ.on hb0)
  rw [eW0] at hS
  have HW0 := Lib.hid eW0
  have HB0 := Lib.hid hb0
  have HL0 := Lib.hid hl0
  have HH := Lib.hid hH
  have HJ := Lib.hid hJ
  have HS := Lib.hid hS
  clear hJ hH hb0 hl0 hS eW0
  go_enter Tryz.func4, Tryz.ntmps4
  go_wp2_with fail
  refine HS.out.mono ?_
  rintro e w1 ⟨⟨r, rfl⟩, hb1⟩
  clear HS
  rw [← HW0.out] at hb1
  have hb2 := below_more HB0.out hb1
  have hl1 := HL0.out.below hb1 HL0.out.lt
  cases r
  · have hA := alive_any w1 (HH.out.below hb2)
    clear hb1 hl1
    go_wp2_with fail
    refine hA.mono ?_
    rintro e w2 ⟨rfl, hb3⟩
    have HE : Hid (IsTrue w (.returned (.bool true)) w2) := ⟨rfl, below_more hb2 hb3⟩
    clear hA hb2 hb3
    go_wp2
    go_ret
    exact HE.out
  have hP := print_any _ x w1 (HH.out.below hb2) (HJ.out.on hb2)
  obtain ⟨⟨z0, z1, z2, z3, z4, z5⟩, _⟩ := hl1.six
  have HL1 := Lib.hid hl1
  clear hb1 hl1
  go_wp2_with fail
  refine hP.mono ?_
  intro e w2 hh
  clear hP z0 z1 z2 z3 z4 z5
  rcases PrintEnd.cases hh with ⟨B, hr, rfl, hB, hBl, hb3⟩ | ⟨hr, rfl, hb3⟩
  all_goals
    have hb4 := below_more hb2 hb3
    have hQ := refPrint_any HFO _ x w2 (HJ.out.on hb4)
    rw [hr] at hQ
    obtain ⟨⟨z0, z1, z2, z3, z4, z5⟩, _⟩ := (HL1.out.below hb3 HL1.out.lt).six
    clear hh hr hb2 hb3
    go_wp2_with fail
    refine hQ.mono ?_
    intro e w3 hh
    clear hQ
  · obtain ⟨hb5, rfl, _, _⟩ := hh
    have hb6 := below_more hb4 hb5
    have hA := alive_any w3 (HH.out.below hb6)
    have hSS : ((strOf B).toList == (strOf B).toList) = true := by simp
    generalize strOf B = X at *
    clear hb4 hb5 z0 z1 z2 z3 z4 z5 hB hBl
    go_wp2_with fail
    refine hA.mono ?_
    rintro e w4 ⟨rfl, hb7⟩
    have HE : Hid (IsTrue w (.returned (.bool true)) w4) := ⟨rfl, below_more hb6 hb7⟩
    clear hA hb6 hb7
    go_wp2
    go_ret
    exact HE.out
  · obtain ⟨hb5, hh⟩ := hh
    obtain rfl : e = .returned (.tuple #[.string ByteArray.empty, .bool false]) := hh
    have hb6 := below_more hb4 hb5
    have hA := alive_any w3 (HH.out.below hb6)
    clear hb4 hb5 z0 z1 z2 z3 z4 z5
    go_wp2_with fail
    refine hA.mono ?_
    rintro e w4 ⟨rfl, hb7⟩
    have HE : Hid (IsTrue w (.returned (.bool true)) w4) := ⟨rfl, below_more hb6 hb7⟩
    clear hA hb6 hb7
    go_wp2
    go_ret
    exact HE.out

set_option maxHeartbeats 4000000 in
set_option maxRecDepth 100000 in
theorem lawRight_of (HFO : FormOk) (x : Jq.J) (v : Value) (w : World) (hH : Held w) (hJ : IsJ w (fun _ => True) v x) :
    Calls Tryz.prog 5 #[v] w (IsTrue w) := by
  obtain ⟨A1, c1, A2, c2, rfl⟩ := hJ.form
  obtain ⟨W0, eW0⟩ : ∃ W0, W0 = w.alloc (.cells #[.int .i64 x.kind, .bool x.bool, .int .i64 x.int, .string (strOf x.text), .slice A1 x.names.length c1, .slice A2 x.list.length c2] 25) := ⟨_, rfl⟩
  have hb0 : Below w.heap.size w W0 := by rw [eW0]; exact (Below.refl _ _).alloc (Nat.le_refl _) _
  have hl0 : Lies W0 w.heap.size 25 [.int .i64 x.kind, .bool x.bool, .int .i64 x.int, .string (strOf x.text), .slice A1 x.names.length c1, .slice A2 x.list.length c2] := by rw [eW0]; exact Lies.new_ rfl
  have hS := small_any x _ W0 (hJ.on hb0)
  rw [eW0] at hS
  have HW0 := Lib.hid eW0
  have HB0 := Lib.hid hb0
  have HL0 := Lib.hid hl0
  have HH := Lib.hid hH
  have HJ := Lib.hid hJ
  have HS := Lib.hid hS
  clear hJ hH hb0 hl0 hS eW0
  go_enter Tryz.func5, Tryz.ntmps5
  go_wp2_with fail
  refine HS.out.mono ?_
  rintro e w1 ⟨⟨r, rfl⟩, hb1⟩
  clear HS
  rw [← HW0.out] at hb1
  have hb2 := below_more HB0.out hb1
  have hl1 := HL0.out.below hb1 HL0.out.lt
  cases r
  · have hA := alive_any w1 (HH.out.below hb2)
    clear hb1 hl1
    go_wp2_with fail
    refine hA.mono ?_
    rintro e w2 ⟨rfl, hb3⟩
    have HE : Hid (IsTrue w (.returned (.bool true)) w2) := ⟨rfl, below_more hb2 hb3⟩
    clear hA hb2 hb3
    go_wp2
    go_ret
    exact HE.out
  have hP := refPrint_any HFO _ x w1 (HJ.out.on hb2)
  obtain ⟨⟨z0, z1, z2, z3, z4, z5⟩, _⟩ := hl1.six
  have HL1 := Lib.hid hl1
  clear hb1 hl1
  go_wp2_with fail
  refine hP.mono ?_
  intro e w2 hh
  clear hP z0 z1 z2 z3 z4 z5
  rcases PrintEnd.cases hh with ⟨B, hr, rfl, hB, hBl, hb3⟩ | ⟨hr, rfl, hb3⟩
  all_goals
    have hb4 := below_more hb2 hb3
    have hl2 := HL1.out.below hb3 HL1.out.lt
    have hA := alive_any w2 (HH.out.below hb4)
    have HR := Lib.hid hr
    clear hh hr hb2 hb3
    go_wp2_with fail
    refine hA.mono ?_
    rintro e w3 ⟨rfl, hb5⟩
    have hb6 := below_more hb4 hb5
    have hRi := right_any _ x w3 (HH.out.below hb6) (HJ.out.on hb6)
    rw [HR.out] at hRi
    obtain ⟨⟨z0, z1, z2, z3, z4, z5⟩, _⟩ := (hl2.below hb5 hl2.lt).six
    clear hA hb4 hb5 hl2
    go_wp2_with fail
    refine hRi.mono ?_
    rintro e w4 ⟨rfl, hb7⟩
    have HE : Hid (IsTrue w (.returned (.bool true)) w4) := ⟨rfl, below_more hb6 hb7⟩
    clear hRi hb6 hb7 z0 z1 z2 z3 z4 z5
    go_wp2
    go_ret
    exact HE.out
end Go.Proofs.YtndkangfnojpoaaGreatDoor
