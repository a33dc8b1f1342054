/-
  What makes values: Text, Int and Object, the program's and the document's.
-/
import Derived.Test.YtndkangfnojpoaaGreatDoorQJ
namespace Go.Proofs.YtndkangfnojpoaaGreatDoor
open Go.RowKit

theorem one_alloc (w : World) (o : Obj) : Below w.heap.size w (w.alloc o) := (Below.refl _ _).alloc (Nat.le_refl _) o
theorem textMade_any (s : ByteArray) (w : World) : Calls Tryz.prog 21 #[.string s] w fun e w' => e = .returned (jv 3 false 0 s nilS nilS) ∧ Below w.heap.size w w' := by
  go_enter Tryz.func21, Tryz.ntmps21
  go_wp2
  exact bodyPost_ret (by simp [results, Tryz.results21, go_sem]) rfl ⟨rfl, one_alloc _ _⟩
theorem refText_any (s : ByteArray) (w : World) : Calls Tryz.prog 22 #[.string s] w fun e w' => e = .returned (jv 3 false 0 s nilS nilS) ∧ Below w.heap.size w w' := by
  go_enter Tryz.func22, Tryz.ntmps22
  go_wp2
  exact bodyPost_ret (by simp [results, Tryz.results22, go_sem]) rfl ⟨rfl, one_alloc _ _⟩
theorem intMade_any (n : Int) (w : World) : Calls Tryz.prog 23 #[.int .i64 n] w fun e w' => e = .returned (jv 2 false n ByteArray.empty nilS nilS) ∧ Below w.heap.size w w' := by
  go_enter Tryz.func23, Tryz.ntmps23
  go_wp2
  exact bodyPost_ret (by simp [results, Tryz.results23, go_sem]; rfl) rfl ⟨rfl, one_alloc _ _⟩
theorem refInt_any (n : Int) (w : World) : Calls Tryz.prog 24 #[.int .i64 n] w fun e w' => e = .returned (jv 2 false n ByteArray.empty nilS nilS) ∧ Below w.heap.size w w' := by
  go_enter Tryz.func24, Tryz.ntmps24
  go_wp2
  exact bodyPost_ret (by simp [results, Tryz.results24, go_sem]; rfl) rfl ⟨rfl, one_alloc _ _⟩
theorem refObject_any (A9 A0 : Option Addr) (n m c d : Nat) (w : World) : Calls Tryz.prog 20 #[.slice A9 n c, .slice A0 m d] w fun e w' => e = .returned (jv 5 false 0 ByteArray.empty (.slice A9 n c) (.slice A0 m d)) ∧ Below w.heap.size w w' := by
  go_enter Tryz.func20, Tryz.ntmps20
  go_wp2
  exact bodyPost_ret (by simp [results, Tryz.results20, go_sem]; rfl) rfl ⟨rfl, one_alloc _ _⟩
/-- A value that is an object of these. -/
theorem isJ_obj {w : World} {ok : Nat → Prop} {nv lv : Value} {ns : List (List Nat)} {l : List Jq.J} (hS : SlIs w ok nv ns.length (tcells ns)) (hns : ∀ p ∈ ns, p.length ≤ 140737488355328 ∧ ∀ y ∈ p, y < 256) (hnl : ns.length * 16 ≤ 140737488355328) (hL : ListIs w ok lv l) :
    IsJ w ok (jv 5 false 0 ByteArray.empty nv lv) (Jq.objJ ns l) := by
  have e : strOf [] = ByteArray.empty := rfl
  obtain ⟨vs, h1, h2, h3, h4⟩ := hL
  rw [← e]
  exact .mk (by omega) (by omega) ⟨Nat.zero_le _, fun _ h => nomatch h⟩ hS hns hnl h1 h2 h3 h4

set_option maxHeartbeats 2000000 in
theorem object_any {ok : Nat → Prop} (nv lv : Value) (ns : List (List Nat)) (l : List Jq.J) (w : World) (hS : SlIs w ok nv ns.length (tcells ns)) (hns : ∀ p ∈ ns, p.length ≤ 140737488355328 ∧ ∀ y ∈ p, y < 256) (hnl : ns.length * 16 ≤ 140737488355328) (hL : ListIs w ok lv l) :
    Calls Tryz.prog 19 #[nv, lv] w (CloneEnd (Jq.objJ ns l) w) := by
  have hb0 : Below w.heap.size w (w.alloc (.cells #[.int .i64 0, .bool false, .int .i64 0, .string { data := #[] }, .slice none 0 0, .slice none 0 0] 25)) := one_alloc _ _
  have hC := clone_any (Jq.objJ ns l) _ _ ((isJ_obj hS hns hnl hL).on hb0)
  have hl0 : Lies (w.alloc (.cells #[.int .i64 0, .bool false, .int .i64 0, .string { data := #[] }, .slice none 0 0, .slice none 0 0] 25)) w.heap.size 25 zero6 := Lies.new_ (cs := zero6) rfl
  obtain ⟨A9, c9, rfl⟩ := hS.form
  obtain ⟨A0, c0, rfl⟩ := hL.form
  generalize Jq.objJ ns l = x at *
  have HB0 := Lib.hid hb0
  have HL0 := Lib.hid hl0
  clear hS hns hnl hL hb0 hl0
  generalize ns.length = N at *
  generalize l.length = M at *
  go_enter Tryz.func19, Tryz.ntmps19
  go_wp2_with fail
  refine hC.mono ?_
  rintro e w1 ⟨u, rfl, hJ, hb1⟩
  clear hC
  obtain ⟨A1, c1, A2, c2, rfl⟩ := hJ.form
  have hl1 := HL0.out.below hb1 HL0.out.lt
  obtain ⟨⟨z0, z1, z2, z3, z4, z5⟩, f0, f1, f2, f3, f4, f5⟩ := hl1.six
  have hbw := below_more HB0.out hb1
  have hlf : Lies (put6 w1 w.heap.size (.int .i64 x.kind) (.bool x.bool) (.int .i64 x.int) (.string (strOf x.text)) (.slice A1 x.names.length c1) (.slice A2 x.list.length c2)) w.heap.size 25 [.int .i64 x.kind, .bool x.bool, .int .i64 x.int, .string (strOf x.text), .slice A1 x.names.length c1, .slice A2 x.list.length c2] := hl1.put6
  have HE : Hid (CloneEnd x w (.returned (jv x.kind x.bool x.int (strOf x.text) (.slice A1 x.names.length c1) (.slice A2 x.list.length c2))) (put6 w1 w.heap.size (.int .i64 x.kind) (.bool x.bool) (.int .i64 x.int) (.string (strOf x.text)) (.slice A1 x.names.length c1) (.slice A2 x.list.length c2))) :=
    ⟨_, rfl, ((hJ.from (C := w.heap.size + 1) (by simp)).put6 (Nat.lt_succ_self _)).from (Nat.le_succ _), hbw.trans (gb_down gb_put6 hbw.size (Nat.le_refl _))⟩
  obtain ⟨⟨q0, q1, q2, q3, q4, q5⟩, _⟩ := hlf.six
  clear hb1 hJ hl1 hbw hlf
  go_wp2
  exact bodyPost_ret (v := jv x.kind x.bool x.int (strOf x.text) (.slice A1 x.names.length c1) (.slice A2 x.list.length c2)) (by simp [results, Tryz.results19, go_sem, q0, q1, q2, q3, q4, q5]) rfl HE.out
end Go.Proofs.YtndkangfnojpoaaGreatDoor
