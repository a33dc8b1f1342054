/-
  The contract of the document's Same, at two tokens that read alike; what Open answers, in one form.
-/
import Derived.Test.YthklgpflaghojaaGreatDoorWPD
import Derived.Test.YthklgpflaghojaaGreatDoorQS
namespace Go.Proofs.YthklgpflaghojaaGreatDoor
open Go.RowKit

set_option maxHeartbeats 2000000 in
set_option maxRecDepth 100000 in
theorem refSame8_any {ok ok' : Nat → Prop} (kb sb : ByteArray) (q : List Nat) (x : Jq.J) (A1 A2 A3 B1 B2 B3 : Option Addr) (c1 c2 c3 d1 d2 d3 : Nat) (w : World)
    (hJ : IsJ w ok (jv x.kind x.bool x.int (strOf x.text) (.slice A1 x.names.length c1) (.slice A2 x.list.length c2)) x)
    (hK : IsJ w ok' (jv x.kind x.bool x.int (strOf x.text) (.slice B1 x.names.length d1) (.slice B2 x.list.length d2)) x)
    (hA : ArgIs w A3 c3 q) (hB : ArgIs w B3 d3 q) :
    Calls Tryz.prog 8 #[tokv kb x.kind x.bool x.int (strOf x.text) (.slice A1 x.names.length c1) (.slice A2 x.list.length c2) sb (.slice A3 q.length c3), tokv kb x.kind x.bool x.int (strOf x.text) (.slice B1 x.names.length d1) (.slice B2 x.list.length d2) sb (.slice B3 q.length d3)] w fun e w' => e = .returned (.bool true) ∧ Below w.heap.size w w' := by
  obtain ⟨W0, eW0⟩ : ∃ W0, W0 = (w.alloc (.cells #[.string kb, .int .i64 x.kind, .bool x.bool, .int .i64 x.int, .string (strOf x.text), .slice A1 x.names.length c1, .slice A2 x.list.length c2, .string sb, .slice A3 q.length c3] 29)).alloc (.cells #[.string kb, .int .i64 x.kind, .bool x.bool, .int .i64 x.int, .string (strOf x.text), .slice B1 x.names.length d1, .slice B2 x.list.length d2, .string sb, .slice B3 q.length d3] 29) := ⟨_, rfl⟩
  have hb0 : Below w.heap.size w W0 := by rw [eW0]; exact ((Below.refl _ _).alloc (Nat.le_refl _) _).alloc (by simp) _
  have hl1 : Lies W0 w.heap.size 29 [.string kb, .int .i64 x.kind, .bool x.bool, .int .i64 x.int, .string (strOf x.text), .slice A1 x.names.length c1, .slice A2 x.list.length c2, .string sb, .slice A3 q.length c3] := by rw [eW0]; exact (Lies.new_ rfl).alloc _
  have hl2 : Lies W0 (w.heap.size + 1) 29 [.string kb, .int .i64 x.kind, .bool x.bool, .int .i64 x.int, .string (strOf x.text), .slice B1 x.names.length d1, .slice B2 x.list.length d2, .string sb, .slice B3 q.length d3] := by rw [eW0]; exact Lies.new_ (by simp)
  have hS := refSame_any x x _ _ W0 (hJ.on hb0) (hK.on hb0)
  obtain ⟨⟨y0, y1, y2, y3, y4, y5, y6, y7, y8⟩, _⟩ := hl1.nine
  obtain ⟨⟨z0, z1, z2, z3, z4, z5, z6, z7, z8⟩, _⟩ := hl2.nine
  rw [eW0] at hS y1 y2 y3 y4 y5 y6 z1 z2 z3 z4 z5 z6
  have HA := Lib.hid hA
  have HB := Lib.hid hB
  have HL1 := Lib.hid hl1
  have HL2 := Lib.hid hl2
  have HB0 := Lib.hid hb0
  have HW0 := Lib.hid eW0
  obtain ⟨X, eX⟩ : ∃ X, strOf q = X := ⟨_, rfl⟩
  have HX := Lib.hid eX
  clear hA hB hl1 hl2 hb0 eW0 hJ hK y0 y7 y8 z0 z7 z8 eX
  go_enter Tryz.func8, Tryz.ntmps8
  go_wp2_with fail
  refine hS.mono ?_
  rintro e w1 ⟨hb1, ⟨_, rfl⟩ | ⟨hn, rfl⟩⟩
  rotate_left
  · exact absurd trivial hn
  clear hS y1 y2 y3 y4 y5 y6 z1 z2 z3 z4 z5 z6
  rw [← HW0.out] at hb1
  have hbw := below_more HB0.out hb1
  obtain ⟨⟨y0, _, _, _, _, _, _, y7, y8⟩, _⟩ := (HL1.out.below hb1 HL1.out.lt).nine
  obtain ⟨⟨z0, _, _, _, _, _, _, z7, z8⟩, _⟩ := (HL2.out.below hb1 HL2.out.lt).nine
  have k1 := conv_str (HA.out.below hbw (Nat.le_refl _))
  have k2 := conv_str (HB.out.below hbw (Nat.le_refl _))
  rw [HX.out] at k1 k2
  clear hb1
  go_wp2
  go_ret
  exact ⟨rfl, hbw⟩

/-- What Open answers, in one form: the parts of the token, and the error. -/
def shown : Except Nat Wq.Tok → ByteArray × Jq.J × ByteArray × List Nat × Int
  | .ok t => (strOf t.kid, t.claims, strOf t.signed, t.mac, 0)
  | .error m => (ByteArray.empty, .mk 0 false 0 [] [] [], ByteArray.empty, [], m)
/-- The same, of an answer in memory. -/
def Shows (kb : ByteArray) (x : Jq.J) (sb : ByteArray) (q : List Nat) (E : Int) (w : World) (e : Ending) (w' : World) : Prop := Below w.heap.size w w' ∧
  ∃ (A1 A2 A3 : Option Addr) (c1 c2 c3 : Nat), e = .returned (.tuple #[tokv kb x.kind x.bool x.int (strOf x.text) (.slice A1 x.names.length c1) (.slice A2 x.list.length c2) sb (.slice A3 q.length c3), .int .i64 E]) ∧
    IsJ w' (w.heap.size ≤ ·) (jv x.kind x.bool x.int (strOf x.text) (.slice A1 x.names.length c1) (.slice A2 x.list.length c2)) x ∧ ArgIs w' A3 c3 q
theorem OpenEnd.shows {res : Except Nat Wq.Tok} {w w' : World} {e : Ending} (h : OpenEnd res w e w') : Shows (shown res).1 (shown res).2.1 (shown res).2.2.1 (shown res).2.2.2.1 (shown res).2.2.2.2 w e w' := by
  obtain ⟨hb, h⟩ := h
  refine ⟨hb, ?_⟩
  cases res with
  | ok t =>
    obtain ⟨A1, A2, A3, c1, c2, c3, rfl, hJ, hA, _⟩ := h
    exact ⟨A1, A2, A3, c1, c2, c3, rfl, hJ, hA⟩
  | error m =>
    obtain ⟨rfl, _⟩ := h
    exact ⟨none, none, none, 0, 0, 0, rfl, isJ_plain (k := 0) (b := false) (n := 0) (t := []) w' _ ⟨by omega, by omega⟩ ⟨by omega, by omega⟩ ⟨Nat.zero_le _, (fun _ h => nomatch h)⟩, Nat.zero_le _, by omega, (fun _ h => nomatch h), fun h => absurd h (Nat.lt_irrefl _)⟩
end Go.Proofs.YthklgpflaghojaaGreatDoor
