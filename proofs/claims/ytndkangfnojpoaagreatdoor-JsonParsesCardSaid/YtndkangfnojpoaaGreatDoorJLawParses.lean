/-
  The law JsonParses.
-/
import Derived.Test.YtndkangfnojpoaaGreatDoorJRParse
namespace Go.Proofs.YtndkangfnojpoaaGreatDoor
open Go.RowKit

theorem zeroJ_is (w : World) : IsJ w (fun _ => True) (jv 0 false 0 ByteArray.empty nilS nilS) (.mk 0 false 0 [] [] []) := isJ_plain w _ (k := 0) (n := 0) (b := false) (t := []) (by decide) (by decide) ⟨Nat.zero_le _, fun _ h => nomatch h⟩
/-- Both tell the same. -/
theorem both_parse {S : List Nat} {w w1 w2 w3 : World} {e f : Ending} (h : ParseEndJ S w e w1) (k : ParseEndJ S w2 f w3) :
    ∃ (x : Jq.J) (n : Int) (u v : Value), e = .returned (.tuple #[u, .int .i64 n]) ∧ f = .returned (.tuple #[v, .int .i64 n]) ∧ IsJ w1 (fun _ => True) u x ∧ IsJ w3 (fun _ => True) v x := by
  have any : ∀ {w : World} {B : Nat} {v : Value} {x : Jq.J}, IsJ w (B ≤ ·) v x → IsJ w (fun _ => True) v x := fun h => h.keep (fun _ _ _ => ⟨trivial, rfl⟩) (Nat.le_refl _)
  rcases h.cases with ⟨x, u, hp, rfl, hJ, _⟩ | ⟨m, hp, rfl, _, _⟩
  · rcases k.cases with ⟨y, v, hq, rfl, hK, _⟩ | ⟨m, hq, _⟩
    · rw [hp] at hq
      injection hq with hq
      subst hq
      exact ⟨x, 0, u, v, rfl, rfl, any hJ, any hK⟩
    · rw [hp] at hq; cases hq
  · rcases k.cases with ⟨y, v, hq, _⟩ | ⟨m', hq, rfl, _, _⟩
    · rw [hp] at hq; cases hq
    · rw [hp] at hq
      injection hq with hq
      subst hq
      exact ⟨_, m, _, _, rfl, rfl, zeroJ_is _, zeroJ_is _⟩

set_option maxHeartbeats 4000000 in
set_option maxRecDepth 100000 in
theorem lawParses_any (s : ByteArray) (w : World) (hH : Held w) :
    Calls Tryz.prog 3 #[.string s] w (IsTrue w) := by
  have hP := parseJ_any s w hH
  have HH := Lib.hid hH
  clear hH
  go_enter Tryz.func3, Tryz.ntmps3
  go_wp2_with fail
  refine hP.mono ?_
  intro e w1 hh
  clear hP
  have HE1 := Lib.hid hh
  obtain ⟨u, E, rfl, hb1, hu⟩ : ∃ u E, e = .returned (.tuple #[u, .int .i64 E]) ∧ Below w.heap.size w w1 ∧ (∃ k b i s A1 n1 c1 A2 n2 c2, u = jv k b i s (.slice A1 n1 c1) (.slice A2 n2 c2)) := by
    obtain ⟨x, n, u, v, he, _, hJ, _⟩ := both_parse hh hh
    obtain ⟨B1, d1, B2, d2, rfl⟩ := hJ.form
    exact ⟨_, _, he, hh.1, ⟨_, _, _, _, _, _, _, _, _, _, rfl⟩⟩
  obtain ⟨k, b, i, t, A1, n1, c1, A2, n2, c2, rfl⟩ := hu
  obtain ⟨W0, eW0⟩ : ∃ W0, W0 = w1.alloc (.cells #[.int .i64 k, .bool b, .int .i64 i, .string t, .slice A1 n1 c1, .slice A2 n2 c2] 25) := ⟨_, rfl⟩
  have hb0 : Below w1.heap.size w1 W0 := by rw [eW0]; exact (Below.refl _ _).alloc (Nat.le_refl _) _
  have hl0 : Lies W0 w1.heap.size 25 [.int .i64 k, .bool b, .int .i64 i, .string t, .slice A1 n1 c1, .slice A2 n2 c2] := by rw [eW0]; exact Lies.new_ rfl
  have hb2 := below_more hb1 hb0
  have hQ := refParse_any s W0
  rw [eW0] at hQ
  have HW0 := Lib.hid eW0
  have HB2 := Lib.hid hb2
  have HB0 := Lib.hid hb0
  have HL0 := Lib.hid hl0
  clear hb0 hb1 hb2 hl0 eW0 hh
  go_wp2_with fail
  refine hQ.mono ?_
  intro f w2 hh
  clear hQ
  rw [← HW0.out] at hh
  obtain ⟨x, n, u, v, he, rfl, hJ, hK⟩ := both_parse HE1.out hh
  obtain ⟨rfl, rfl⟩ : jv k b i t (.slice A1 n1 c1) (.slice A2 n2 c2) = u ∧ E = n := by simpa using he
  obtain ⟨B1, d1, B2, d2, rfl⟩ := hK.form
  have hb3 := hh.1
  have hb4 := below_more HB2.out hb3
  have hl2 := HL0.out.below hb3 HL0.out.lt
  have hJ2 := (hJ.on HB0.out).on hb3
  obtain ⟨W3, eW3⟩ : ∃ W3, W3 = w2.alloc (.cells #[.int .i64 x.kind, .bool x.bool, .int .i64 x.int, .string (strOf x.text), .slice B1 x.names.length d1, .slice B2 x.list.length d2] 25) := ⟨_, rfl⟩
  have hbW : Below w2.heap.size w2 W3 := by rw [eW3]; exact (Below.refl _ _).alloc (Nat.le_refl _) _
  have hlW : Lies W3 w2.heap.size 25 [.int .i64 x.kind, .bool x.bool, .int .i64 x.int, .string (strOf x.text), .slice B1 x.names.length d1, .slice B2 x.list.length d2] := by rw [eW3]; exact Lies.new_ rfl
  have hb7 := below_more hb4 hbW
  have hA := alive_any W3 (HH.out.below hb7)
  have HLW := Lib.hid hlW
  have HL3 := Lib.hid (hl2.below hbW hl2.lt)
  have HJW := Lib.hid (hK.on hbW)
  have HJ3 := Lib.hid (hJ2.on hbW)
  have HB7 := Lib.hid hb7
  rw [eW3] at hA
  have HW3 := Lib.hid eW3
  clear hh hl2 hlW hb3 hb4 hb7 hbW hJ hJ2 hK eW3 he HE1
  go_wp2_with fail
  refine hA.mono ?_
  rintro e w4 ⟨rfl, hb8⟩
  clear hA
  rw [← HW3.out] at hb8
  have hb9 := below_more HB7.out hb8
  have hR := refSame_any x x _ _ w4 (HJ3.out.on hb8) (HJW.out.on hb8)
  obtain ⟨⟨z0, z1, z2, z3, z4, z5⟩, _⟩ := (HL3.out.below hb8 HL3.out.lt).six
  obtain ⟨⟨y0, y1, y2, y3, y4, y5⟩, _⟩ := (HLW.out.below hb8 HLW.out.lt).six
  have hEE : (E == E) = true := by simp
  clear hb8
  go_wp2_with fail
  refine hR.mono ?_
  rintro e w5 ⟨hb10, ⟨_, rfl⟩ | ⟨hn, rfl⟩⟩
  rotate_left
  · exact absurd trivial hn
  have HE : Hid (IsTrue w (.returned (.bool true)) w5) := ⟨rfl, below_more hb9 hb10⟩
  clear hR hb9 hb10 z0 z1 z2 z3 z4 z5 y0 y1 y2 y3 y4 y5
  go_wp2
  go_ret
  exact HE.out
end Go.Proofs.YtndkangfnojpoaaGreatDoor
