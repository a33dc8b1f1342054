/-
  The law JsonAgain.
-/
import Derived.Test.YtndkangfnojpoaaDoorQK
namespace Go.Proofs.YtndkangfnojpoaaDoor
open Go.RowKit

set_option maxHeartbeats 4000000 in
set_option maxRecDepth 100000 in
theorem lawAgain_any (s : ByteArray) (w : World) (hH : Held w) :
    Calls Tryd.prog 4 #[.string s] w (IsTrue w) := by
  have hP := parseJ_any s w hH
  have HH := Lib.hid hH
  clear hH
  go_enter Tryd.func4, Tryd.ntmps4
  go_wp2_with fail
  refine hP.mono ?_
  intro e w1 hh
  clear hP
  rcases ParseEndJ.cases hh with ⟨x, u, hp, rfl, hJ1, hb1⟩ | ⟨m, hp, rfl, hm, hb1⟩
  rotate_left
  · have hd : ((m : Int) != 0) = true := by rw [bne_iff_ne]; omega
    have hb2 := below_alloc hb1 (.cells #[.int .i64 0, .bool false, .int .i64 0, .string ByteArray.empty, nilS, nilS] 25)
    have hA := alive_any _ (HH.out.below hb2)
    clear hh hp hm hb1
    go_wp2_with fail
    refine hA.mono ?_
    rintro e w2 ⟨rfl, hb3⟩
    have HE : Hid (IsTrue w (.returned (.bool true)) w2) := ⟨rfl, below_more hb2 hb3⟩
    clear hA hb2 hb3
    go_wp2
    go_ret
    exact HE.out
  obtain ⟨A1, c1, A2, c2, rfl⟩ := hJ1.form
  obtain ⟨W0, eW0⟩ : ∃ W0, W0 = w1.alloc (.cells #[.int .i64 x.kind, .bool x.bool, .int .i64 x.int, .string (strOf x.text), .slice A1 x.names.length c1, .slice A2 x.list.length c2] 25) := ⟨_, rfl⟩
  have hb0 : Below w1.heap.size w1 W0 := by rw [eW0]; exact (Below.refl _ _).alloc (Nat.le_refl _) _
  have hl0 : Lies W0 w1.heap.size 25 [.int .i64 x.kind, .bool x.bool, .int .i64 x.int, .string (strOf x.text), .slice A1 x.names.length c1, .slice A2 x.list.length c2] := by rw [eW0]; exact Lies.new_ rfl
  have hb2 := below_more hb1 hb0
  have hJ0 := hJ1.on hb0
  have hPr := print_any _ x W0 (HH.out.below hb2) hJ0
  rw [eW0] at hPr
  have HW0 := Lib.hid eW0
  have HB2 := Lib.hid hb2
  have HL0 := Lib.hid hl0
  have HJ := Lib.hid hJ0
  clear hJ0 hJ1 hb0 hb1 hb2 hl0 eW0 hh hp
  go_wp2_with fail
  refine hPr.mono ?_
  intro e w2 hh
  clear hPr
  rw [← HW0.out] at hh
  rcases PrintEnd.cases hh with ⟨B, hr, rfl, hB, hBl, hb3⟩ | ⟨hr, rfl, hb3⟩
  · obtain ⟨hg, he, _⟩ := Jq.valueP_some hr
    have hpa : Jq.parse B = .ok x := by rw [he]; exact Jq.parse_write hg (by rw [← he]; exact hBl)
    have hb4 := below_more HB2.out hb3
    have hQ := parseJ_any (strOf B) w2 (HH.out.below hb4)
    rw [numsOf_strOf hB] at hQ
    have HPA := Lib.hid hpa
    have hl2 := HL0.out.below hb3 HL0.out.lt
    have hJ2 := HJ.out.on hb3
    clear hh hr hb3 hg he hpa
    go_wp2_with fail
    refine hQ.mono ?_
    intro e w3 hh
    clear hQ
    rcases ParseEndJ.cases hh with ⟨y, u, hp, rfl, hJ3, hb5⟩ | ⟨m, hp, _⟩
    rotate_left
    · rw [HPA.out] at hp; cases hp
    rw [HPA.out] at hp
    injection hp with hp
    subst hp
    obtain ⟨B1, d1, B2, d2, rfl⟩ := hJ3.form
    have hb6 := below_more hb4 hb5
    have hl3 := hl2.below hb5 hl2.lt
    obtain ⟨W3, eW3⟩ : ∃ W3, W3 = w3.alloc (.cells #[.int .i64 x.kind, .bool x.bool, .int .i64 x.int, .string (strOf x.text), .slice B1 x.names.length d1, .slice B2 x.list.length d2] 25) := ⟨_, rfl⟩
    have hbW : Below w3.heap.size w3 W3 := by rw [eW3]; exact (Below.refl _ _).alloc (Nat.le_refl _) _
    have hlW : Lies W3 w3.heap.size 25 [.int .i64 x.kind, .bool x.bool, .int .i64 x.int, .string (strOf x.text), .slice B1 x.names.length d1, .slice B2 x.list.length d2] := by rw [eW3]; exact Lies.new_ rfl
    have hb7 := below_more hb6 hbW
    have hA := alive_any W3 (HH.out.below hb7)
    have HLW := Lib.hid hlW
    have HL3 := Lib.hid (hl3.below hbW hl3.lt)
    have HJW := Lib.hid (hJ3.on hbW)
    have HJ3 := Lib.hid ((hJ2.on hb5).on hbW)
    have HB7 := Lib.hid hb7
    rw [eW3] at hA
    have HW3 := Lib.hid eW3
    clear hh hl2 hl3 hlW hb4 hb5 hb6 hb7 hbW hJ3 hJ2 eW3
    go_wp2_with fail
    refine hA.mono ?_
    rintro e w4 ⟨rfl, hb8⟩
    clear hA
    rw [← HW3.out] at hb8
    have hb9 := below_more HB7.out hb8
    have hR := refSame_any x x _ _ w4 (HJ3.out.on hb8) (HJW.out.on hb8)
    obtain ⟨⟨z0, z1, z2, z3, z4, z5⟩, _⟩ := (HL3.out.below hb8 HL3.out.lt).six
    obtain ⟨⟨y0, y1, y2, y3, y4, y5⟩, _⟩ := (HLW.out.below hb8 HLW.out.lt).six
    clear hb8
    go_wp2_with fail
    refine hR.mono ?_
    rintro e w5 ⟨hb10, ⟨_, rfl⟩ | ⟨hn, rfl⟩⟩
    rotate_left
    · exact absurd trivial hn
    have HE : Hid (IsTrue w (.returned (.bool true)) w5) := ⟨rfl, below_more hb9 hb10⟩
    clear hR hb9 hb10 z0 z1 z2 z3 z4 z5 y0 y1 y2 y3 y4 y5
    go_wp2
    go_ret
    exact HE.out
  · have hb4 := below_more HB2.out hb3
    have hQ := parseJ_any ByteArray.empty w2 (HH.out.below hb4)
    clear hh hr hb3
    go_wp2_with fail
    refine hQ.mono ?_
    intro e w3 hh
    clear hQ
    obtain ⟨u, E, rfl, hu, hb5⟩ : ∃ u E, e = .returned (.tuple #[u, .int .i64 E]) ∧ (∃ k b i s A1 n1 c1 A2 n2 c2, u = jv k b i s (.slice A1 n1 c1) (.slice A2 n2 c2)) ∧ Below w2.heap.size w2 w3 := by
      rcases ParseEndJ.cases hh with ⟨y, u, _, rfl, hJ3, hb5⟩ | ⟨m, _, rfl, _, hb5⟩
      · obtain ⟨B1, d1, B2, d2, rfl⟩ := hJ3.form
        exact ⟨_, _, rfl, ⟨_, _, _, _, _, _, _, _, _, _, rfl⟩, hb5⟩
      · exact ⟨_, _, rfl, ⟨_, _, _, _, _, _, _, _, _, _, rfl⟩, hb5⟩
    obtain ⟨k, b, i, s, B1, n1, d1, B2, n2, d2, rfl⟩ := hu
    have hb6 := below_alloc (below_more hb4 hb5) (.cells #[.int .i64 k, .bool b, .int .i64 i, .string s, .slice B1 n1 d1, .slice B2 n2 d2] 25)
    have hA := alive_any _ (HH.out.below hb6)
    clear hh hb4 hb5
    go_wp2_with fail
    refine hA.mono ?_
    rintro e w4 ⟨rfl, hb8⟩
    have HE : Hid (IsTrue w (.returned (.bool true)) w4) := ⟨rfl, below_more hb6 hb8⟩
    clear hA hb6 hb8
    go_wp2
    go_ret
    exact HE.out
end Go.Proofs.YtndkangfnojpoaaDoor
