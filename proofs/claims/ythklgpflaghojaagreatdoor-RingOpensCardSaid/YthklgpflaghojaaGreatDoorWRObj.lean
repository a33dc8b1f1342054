/-
  The contract of the document's object.
-/
import Derived.Test.YthklgpflaghojaaGreatDoorWPC
import Derived.Test.YthklgpflaghojaaGreatDoorQT2
import Derived.Test.YthklgpflaghojaaGreatDoorQX8
import Derived.Deep.RegionLaw
namespace Go.Proofs.YthklgpflaghojaaGreatDoor
open Go.RowKit

/-- What the document's object answers. -/
def RObjEnd (q : List Nat) (w : World) (e : Ending) (w' : World) : Prop := Below w.heap.size w w' ∧ ∃ (k : Int) (b : Bool) (n : Int) (t : ByteArray) (A1 A2 : Option Addr) (n1 n2 c1 c2 : Nat) (r : Bool),
  e = .returned (.tuple #[jv k b n t (.slice A1 n1 c1) (.slice A2 n2 c2), .bool r]) ∧ (r = true → ∃ x, Wq.obj q = some x ∧ IsJ w' (w.heap.size ≤ ·) (jv k b n t (.slice A1 n1 c1) (.slice A2 n2 c2)) x) ∧ (r = false → Wq.obj q = none)

set_option maxHeartbeats 4000000 in
set_option maxRecDepth 100000 in
theorem refObject8_any (p q : List Nat) (hp : ∀ x ∈ p, x < 256) (hpl : p.length ≤ 1048576) (hd : B64.IsDec p (some q)) (w : World) :
    Calls Tryz.prog 40 #[.string (strOf p)] w (RObjEnd q w) := by
  obtain ⟨W0, eW0⟩ : ∃ W0, W0 = w.alloc (.cells #[.int .i64 0, .bool false, .int .i64 0, .string { data := #[] }, .slice none 0 0, .slice none 0 0] 26) := ⟨_, rfl⟩
  have hb0 : Below w.heap.size w W0 := by rw [eW0]; exact (Below.refl _ _).alloc (Nat.le_refl _) _
  have hl0 : Lies W0 w.heap.size 26 [.int .i64 0, .bool false, .int .i64 0, .string { data := #[] }, .slice none 0 0, .slice none 0 0] := by rw [eW0]; exact Lies.new_ rfl
  have hD := refDecode_any (strOf p) W0 (by rw [strOf_size]; exact hpl)
  rw [numsOf_strOf hp, eW0] at hD
  have HW0 := Lib.hid eW0
  have HB0 := Lib.hid hb0
  have HL0 := Lib.hid hl0
  have HDc := Lib.hid hd
  have hql : Hid (∀ x ∈ q, x < 256) := hd.1
  clear hb0 hl0 eW0 hp hpl hd
  go_enter Tryz.func40, Tryz.ntmps40
  go_wp2_with fail
  refine hD.mono ?_
  intro e w1 hh
  clear hD
  rw [← HW0.out] at hh
  obtain ⟨A, c, rfl, hA, hb1⟩ : ∃ A c, e = .returned (.tuple #[.slice A q.length c, .bool true]) ∧ ArgIs w1 A c q ∧ Below W0.heap.size W0 w1 := by
    rcases hh with ⟨q', A, c, h1, h2, h3, h4⟩ | ⟨h1, _⟩
    · obtain rfl : q' = q := Option.some.inj (B64.isDec_one h1 HDc.out)
      exact ⟨A, c, h2, h3, h4⟩
    · cases B64.isDec_one h1 HDc.out
  clear hh
  have hcv := conv_str hA
  have hbw1 := below_more HB0.out hb1
  have hl1 := HL0.out.below hb1 HL0.out.lt
  have hP := refParse_any (strOf q) w1
  rw [numsOf_strOf hql.out] at hP
  obtain ⟨X, eX⟩ : ∃ X, strOf q = X := ⟨_, rfl⟩
  rw [eX] at hcv hP
  clear hA hb1 eX
  go_wp2_with fail
  refine hP.mono ?_
  intro e w2 hh
  clear hP hcv
  rcases ParseEndJ.cases hh with ⟨x, u, hpa, rfl, hJ, hb2⟩ | ⟨m, hpa, rfl, hm, hb2⟩
  · obtain ⟨A1, c1, A2, c2, rfl⟩ := hJ.form
    have hl2 := hl1.below hb2 hl1.lt
    have hbw2 := below_more hbw1 hb2
    obtain ⟨W3, eW3⟩ : ∃ W3, W3 = w2.alloc (.cells #[.int .i64 x.kind, .bool x.bool, .int .i64 x.int, .string (strOf x.text), .slice A1 x.names.length c1, .slice A2 x.list.length c2] 26) := ⟨_, rfl⟩
    have hb3 : Below w2.heap.size w2 W3 := by rw [eW3]; exact (Below.refl _ _).alloc (Nat.le_refl _) _
    have hl3 := hl2.below hb3 hl2.lt
    have hv3 : Lies W3 w2.heap.size 26 [.int .i64 x.kind, .bool x.bool, .int .i64 x.int, .string (strOf x.text), .slice A1 x.names.length c1, .slice A2 x.list.length c2] := by rw [eW3]; exact Lies.new_ rfl
    have hJ3 := hJ.on hb3
    have hbw3 := below_more hbw2 hb3
    obtain ⟨⟨z0, z1, z2, z3, z4, z5⟩, f0, f1, f2, f3, f4, f5⟩ := hl3.six
    obtain ⟨⟨y0, y1, y2, y3, y4, y5⟩, _⟩ := hv3.six
    have hlf : Lies (put6 W3 w.heap.size (.int .i64 x.kind) (.bool x.bool) (.int .i64 x.int) (.string (strOf x.text)) (.slice A1 x.names.length c1) (.slice A2 x.list.length c2)) w.heap.size 26 [.int .i64 x.kind, .bool x.bool, .int .i64 x.int, .string (strOf x.text), .slice A1 x.names.length c1, .slice A2 x.list.length c2] := hl3.put6
    obtain ⟨⟨q0, q1, q2, q3, q4, q5⟩, _⟩ := hlf.six
    have hws : w.heap.size + 1 ≤ w1.heap.size := hl1.lt
    have hw2s := hl2.lt
    have x0 := (hv3.far (p := ⟨w.heap.size, 0, none⟩) (by simp; omega) (.int .i64 x.kind)).cell 0
    simp only [List.getElem?_cons_zero] at x0
    have HE : ∀ r : Bool, (r = true → x.kind = 5) → (r = false → x.kind ≠ 5) → Hid (RObjEnd q w (.returned (.tuple #[jv x.kind x.bool x.int (strOf x.text) (.slice A1 x.names.length c1) (.slice A2 x.list.length c2), .bool r])) (put6 W3 w.heap.size (.int .i64 x.kind) (.bool x.bool) (.int .i64 x.int) (.string (strOf x.text)) (.slice A1 x.names.length c1) (.slice A2 x.list.length c2)).drew) := fun r h1 h2 =>
      ⟨(hbw3.trans (gb_down gb_put6 hbw3.size (Nat.le_refl _))).drew, _, _, _, _, _, _, _, _, _, _, _, rfl, (fun h => ⟨x, Wq.obj_yes hpa (h1 h), (((hJ3.from (C := w.heap.size + 1) hws).put6 (Nat.lt_succ_self _)).from (Nat.le_succ _)).drew⟩), fun h => Wq.obj_no hpa (h2 h)⟩
    by_cases hk : x.kind = 5
    · have hdd : (x.kind == 5) = true := by rw [hk]; rfl
      have HE1 := HE true (fun _ => hk) (fun h => by cases h)
      rw [eW3] at z0 z1 z2 z3 z4 z5 f0 f1 f2 f3 f4 f5 y0 y1 y2 y3 y4 y5 q0 q1 q2 q3 q4 q5 HE1 x0
      clear HE hk hh hpa hJ hl1 hl2 hbw2 hb2 hb3 hl3 hv3 hJ3 hbw3 hlf eW3 hbw1 hws hw2s
      go_upto_region 3 with (fail)
      first | (go_region_law (fail)) | (fail "region")
      all_goals
        go_wp2
        exact bodyPost_ret (v := .tuple #[jv x.kind x.bool x.int (strOf x.text) (.slice A1 x.names.length c1) (.slice A2 x.list.length c2), .bool true]) (by simp [results, Tryz.results40, go_sem, q0, q1, q2, q3, q4, q5]) rfl HE1.out
    · have hdd : (x.kind == 5) = false := by rw [beq_eq_false_iff_ne]; exact hk
      have HE1 := HE false (fun h => by cases h) (fun _ => hk)
      rw [eW3] at z0 z1 z2 z3 z4 z5 f0 f1 f2 f3 f4 f5 y0 y1 y2 y3 y4 y5 q0 q1 q2 q3 q4 q5 HE1 x0
      clear HE hk hh hpa hJ hl1 hl2 hbw2 hb2 hb3 hl3 hv3 hJ3 hbw3 hlf eW3 hbw1 hws hw2s
      go_upto_region 3 with (fail)
      first | (go_region_law (fail)) | (fail "region")
      all_goals
        go_wp2
        exact bodyPost_ret (v := .tuple #[jv x.kind x.bool x.int (strOf x.text) (.slice A1 x.names.length c1) (.slice A2 x.list.length c2), .bool false]) (by simp [results, Tryz.results40, go_sem, q0, q1, q2, q3, q4, q5]) rfl HE1.out
  · have hl2 := hl1.below hb2 hl1.lt
    have hbw2 := below_more hbw1 hb2
    obtain ⟨W3, eW3⟩ : ∃ W3, W3 = w2.alloc (.cells #[.int .i64 0, .bool false, .int .i64 0, .string ByteArray.empty, .slice none 0 0, .slice none 0 0] 26) := ⟨_, rfl⟩
    have hb3 : Below w2.heap.size w2 W3 := by rw [eW3]; exact (Below.refl _ _).alloc (Nat.le_refl _) _
    have hl3 := hl2.below hb3 hl2.lt
    have hv3 : Lies W3 w2.heap.size 26 [.int .i64 0, .bool false, .int .i64 0, .string ByteArray.empty, .slice none 0 0, .slice none 0 0] := by rw [eW3]; exact Lies.new_ rfl
    have hbw3 := below_more hbw2 hb3
    obtain ⟨⟨z0, z1, z2, z3, z4, z5⟩, f0, f1, f2, f3, f4, f5⟩ := hl3.six
    obtain ⟨⟨y0, y1, y2, y3, y4, y5⟩, _⟩ := hv3.six
    have hlf : Lies (put6 W3 w.heap.size (.int .i64 0) (.bool false) (.int .i64 0) (.string ByteArray.empty) (.slice none 0 0) (.slice none 0 0)) w.heap.size 26 [.int .i64 0, .bool false, .int .i64 0, .string ByteArray.empty, .slice none 0 0, .slice none 0 0] := hl3.put6
    obtain ⟨⟨q0, q1, q2, q3, q4, q5⟩, _⟩ := hlf.six
    have hdm : ((m : Int) == 0) = false := by rw [beq_eq_false_iff_ne]; omega
    have HE1 : Hid (RObjEnd q w (.returned (.tuple #[jv 0 false 0 ByteArray.empty (.slice none 0 0) (.slice none 0 0), .bool false])) (put6 W3 w.heap.size (.int .i64 0) (.bool false) (.int .i64 0) (.string ByteArray.empty) (.slice none 0 0) (.slice none 0 0)).drew) :=
      ⟨(hbw3.trans (gb_down gb_put6 hbw3.size (Nat.le_refl _))).drew, _, _, _, _, _, _, _, _, _, _, _, rfl, (fun h => by cases h), fun _ => Wq.obj_err hpa⟩
    rw [eW3] at z0 z1 z2 z3 z4 z5 f0 f1 f2 f3 f4 f5 y0 y1 y2 y3 y4 y5 q0 q1 q2 q3 q4 q5 HE1
    clear hh hpa hm hl1 hl2 hbw2 hb2 hb3 hl3 hv3 hbw3 hlf eW3 hbw1
    go_upto_region 3 with (fail)
    first | (go_region_law (fail)) | (fail "region")
    all_goals
      go_wp2
      exact bodyPost_ret (v := .tuple #[jv 0 false 0 ByteArray.empty (.slice none 0 0) (.slice none 0 0), .bool false]) (by simp [results, Tryz.results40, go_sem, q0, q1, q2, q3, q4, q5]) rfl HE1.out
end Go.Proofs.YthklgpflaghojaaGreatDoor
