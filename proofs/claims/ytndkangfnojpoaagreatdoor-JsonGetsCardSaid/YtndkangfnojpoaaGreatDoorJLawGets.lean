/-
  The law JsonGets.
-/
import Derived.Test.YtndkangfnojpoaaGreatDoorJRGet
import Derived.Test.YtndkangfnojpoaaGreatDoorQK
namespace Go.Proofs.YtndkangfnojpoaaGreatDoor
open Go.RowKit

theorem isJ_zero (w : World) (ok : Nat → Prop) : IsJ w ok (jv 0 false 0 ByteArray.empty nilS nilS) (.mk 0 false 0 [] [] []) :=
  isJ_plain (k := 0) (n := 0) (b := false) (t := []) w ok (by decide) (by decide) ⟨Nat.zero_le _, fun _ h => nomatch h⟩

set_option maxHeartbeats 4000000 in
set_option maxRecDepth 100000 in
theorem lawGets_any (x : Jq.J) (v : Value) (s : ByteArray) (w : World) (hH : Held w) (hJ : IsJ w (fun _ => True) v x) :
    Calls Tryz.prog 6 #[v, .string s] w (IsTrue w) := by
  obtain ⟨A1, c1, A2, c2, rfl⟩ := hJ.form
  obtain ⟨t, rfl, ht⟩ : ∃ t, s = strOf t ∧ ∀ y ∈ t, y < 256 := ⟨numsOf s, (strOf_numsOf s).symm, numsOf_lt s⟩
  obtain ⟨W0, eW0⟩ : ∃ W0, W0 = w.alloc (.cells #[.int .i64 x.kind, .bool x.bool, .int .i64 x.int, .string (strOf x.text), .slice A1 x.names.length c1, .slice A2 x.list.length c2] 25) := ⟨_, rfl⟩
  have hb0 : Below w.heap.size w W0 := by rw [eW0]; exact (Below.refl _ _).alloc (Nat.le_refl _) _
  have hl0 : Lies W0 w.heap.size 25 [.int .i64 x.kind, .bool x.bool, .int .i64 x.int, .string (strOf x.text), .slice A1 x.names.length c1, .slice A2 x.list.length c2] := by rw [eW0]; exact Lies.new_ rfl
  have hS := small_any x _ W0 (hJ.on hb0)
  rw [eW0] at hS
  have HW0 := Lib.hid eW0
  have HB0 := Lib.hid hb0
  have HL0 := Lib.hid hl0
  have HH := Lib.hid hH
  have HJ := Lib.hid hJ
  have HS := Lib.hid hS
  have HT := Lib.hid ht
  clear hJ hH hb0 hl0 hS eW0 ht
  go_enter Tryz.func6, Tryz.ntmps6
  go_wp2_with fail
  refine HS.out.mono ?_
  rintro e w1 ⟨⟨r, rfl⟩, hb1⟩
  clear HS
  rw [← HW0.out] at hb1
  have hb2 := below_more HB0.out hb1
  have hl1 := HL0.out.below hb1 HL0.out.lt
  cases r
  · have hA := alive_any w1 (HH.out.below hb2)
    clear hb1 hl1
    go_wp2_with fail
    refine hA.mono ?_
    rintro e w2 ⟨rfl, hb3⟩
    have HE : Hid (IsTrue w (.returned (.bool true)) w2) := ⟨rfl, below_more hb2 hb3⟩
    clear hA hb2 hb3
    go_wp2
    go_ret
    exact HE.out
  have hG := get_any x _ t HT.out w1 (HJ.out.on hb2)
  obtain ⟨⟨z0, z1, z2, z3, z4, z5⟩, _⟩ := hl1.six
  have HL1 := Lib.hid hl1
  clear hb1 hl1
  go_wp2_with fail
  refine hG.mono ?_
  intro e w2 hh
  clear hG z0 z1 z2 z3 z4 z5
  obtain ⟨hb3, hg⟩ := hh
  have hb4 := below_more hb2 hb3
  have hl2 := HL1.out.below hb3 HL1.out.lt
  obtain ⟨RES, eRES⟩ : ∃ RES, getP x t = RES := ⟨_, rfl⟩
  rw [eRES] at hg
  have HRES := Lib.hid eRES
  clear eRES
  -- the two answers, whichever they are, read as one value
  obtain ⟨y, u, ok, rfl, hJ2⟩ : ∃ (y : Jq.J) (u : Value) (ok : Bool), e = .returned (.tuple #[u, .bool ok]) ∧ IsJ w2 (fun _ => True) u y ∧ (RES = (if ok then some y else none)) ∧ (ok = false → y = .mk 0 false 0 [] [] []) := by
    cases RES with
    | some y =>
      obtain ⟨u, rfl, hJ⟩ := hg
      exact ⟨y, u, true, rfl, hJ.keep (fun _ _ _ => ⟨trivial, rfl⟩) (Nat.le_refl _), rfl, fun e => nomatch e⟩
    | none =>
      have hg : e = .returned (.tuple #[jv 0 false 0 ByteArray.empty nilS nilS, .bool false]) := hg
      exact ⟨.mk 0 false 0 [] [] [], _, false, hg, isJ_zero w2 _, rfl, fun _ => rfl⟩
  obtain ⟨hJ2, hR, hz⟩ := hJ2
  obtain ⟨B1, e1, B2, e2, rfl⟩ := hJ2.form
  obtain ⟨W2, eW2⟩ : ∃ W2, W2 = w2.alloc (.cells #[.int .i64 y.kind, .bool y.bool, .int .i64 y.int, .string (strOf y.text), .slice B1 y.names.length e1, .slice B2 y.list.length e2] 25) := ⟨_, rfl⟩
  have hbW2 : Below w2.heap.size w2 W2 := by rw [eW2]; exact (Below.refl _ _).alloc (Nat.le_refl _) _
  have hlW2 : Lies W2 w2.heap.size 25 [.int .i64 y.kind, .bool y.bool, .int .i64 y.int, .string (strOf y.text), .slice B1 y.names.length e1, .slice B2 y.list.length e2] := by rw [eW2]; exact Lies.new_ rfl
  have hb5 := below_more hb4 hbW2
  have hG2 := refGet_any x _ t HT.out W2 (HJ.out.on hb5)
  rw [HRES.out] at hG2
  obtain ⟨⟨z0, z1, z2, z3, z4, z5⟩, _⟩ := (hl2.below hbW2 hl2.lt).six
  have HJY := Lib.hid (hJ2.on hbW2)
  have HLY := Lib.hid hlW2
  have HB5 := Lib.hid hb5
  have HR := Lib.hid hR
  have HZ := Lib.hid hz
  rw [eW2] at hG2 z0 z1 z2 z3 z4 z5
  have HW2 := Lib.hid eW2
  clear hb2 hb3 hb4 hl2 hg hR hz hJ2 hbW2 hlW2 hb5 eW2 HL1
  go_wp2_with fail
  refine hG2.mono ?_
  intro e w3 hh
  clear hG2 z0 z1 z2 z3 z4 z5
  rw [← HW2.out] at hh
  obtain ⟨hb6, hg⟩ := hh
  have hb7 := below_more HB5.out hb6
  obtain ⟨u3, rfl, hJ3⟩ : ∃ u3, e = .returned (.tuple #[u3, .bool ok]) ∧ IsJ w3 (fun _ => True) u3 y := by
    have hR := HR.out
    cases ok with
    | true =>
      rw [show RES = some y from hR] at hg
      obtain ⟨u, rfl, hJ⟩ := hg
      exact ⟨u, rfl, hJ⟩
    | false =>
      rw [show RES = none from hR] at hg
      have hg : e = .returned (.tuple #[jv 0 false 0 ByteArray.empty nilS nilS, .bool false]) := hg
      refine ⟨_, hg, ?_⟩
      rw [HZ.out rfl]
      exact isJ_zero w3 _
  obtain ⟨D1, f1, D2, f2, rfl⟩ := hJ3.form
  obtain ⟨W3, eW3⟩ : ∃ W3, W3 = w3.alloc (.cells #[.int .i64 y.kind, .bool y.bool, .int .i64 y.int, .string (strOf y.text), .slice D1 y.names.length f1, .slice D2 y.list.length f2] 25) := ⟨_, rfl⟩
  have hbW3 : Below w3.heap.size w3 W3 := by rw [eW3]; exact (Below.refl _ _).alloc (Nat.le_refl _) _
  have hlW3 : Lies W3 w3.heap.size 25 [.int .i64 y.kind, .bool y.bool, .int .i64 y.int, .string (strOf y.text), .slice D1 y.names.length f1, .slice D2 y.list.length f2] := by rw [eW3]; exact Lies.new_ rfl
  have hb8 := below_more hb7 hbW3
  have hA := alive_any W3 (HH.out.below hb8)
  have HLY := Lib.hid ((HLY.out.below hb6 HLY.out.lt).below hbW3 (HLY.out.below hb6 HLY.out.lt).lt)
  have HL3 := Lib.hid hlW3
  have HJY := Lib.hid ((HJY.out.on hb6).on hbW3)
  have HJ3 := Lib.hid (hJ3.on hbW3)
  have HB8 := Lib.hid hb8
  rw [eW3] at hA
  have HW3 := Lib.hid eW3
  clear hb6 hb7 hb8 hg hJ3 hbW3 hlW3 eW3
  go_wp2_with fail
  refine hA.mono ?_
  rintro e w4 ⟨rfl, hb9⟩
  clear hA
  rw [← HW3.out] at hb9
  have hb10 := below_more HB8.out hb9
  have hR := refSame_any y y _ _ w4 (HJY.out.on hb9) (HJ3.out.on hb9)
  obtain ⟨⟨z0, z1, z2, z3, z4, z5⟩, _⟩ := (HLY.out.below hb9 HLY.out.lt).six
  obtain ⟨⟨y0, y1, y2, y3, y4, y5⟩, _⟩ := (HL3.out.below hb9 HL3.out.lt).six
  clear hb9
  have hoo : (ok == ok) = true := by cases ok <;> rfl
  go_wp2_with fail
  refine hR.mono ?_
  rintro e w5 ⟨hb11, ⟨_, rfl⟩ | ⟨hn, rfl⟩⟩
  rotate_left
  · exact absurd trivial hn
  have HE : Hid (IsTrue w (.returned (.bool true)) w5) := ⟨rfl, below_more hb10 hb11⟩
  clear hR hb10 hb11 z0 z1 z2 z3 z4 z5 y0 y1 y2 y3 y4 y5
  go_wp2
  go_ret
  exact HE.out
end Go.Proofs.YtndkangfnojpoaaGreatDoor
