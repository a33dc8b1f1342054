/-
  The law JwsSigns.
-/
import Derived.Test.YtgojpcoaahcbeaaGreatDoorWPD
import Derived.Test.YtgojpcoaahcbeaaGreatDoorWRSign
import Derived.Test.YtgojpcoaahcbeaaGreatDoorQJ
namespace Go.Proofs.YtgojpcoaahcbeaaGreatDoor
open Go.RowKit

/-- What Sign answers, in one form. -/
def sgn : Option (List Nat) → ByteArray × Int
  | some S => (strOf S, 0)
  | none => (ByteArray.empty, 80)
theorem SignEnd.shows {res : Option (List Nat)} {w w' : World} {e : Ending} (h : SignEnd res w e w') : e = .returned (.tuple #[.string (sgn res).1, .int .i64 (sgn res).2]) ∧ Below w.heap.size w w' := by
  obtain ⟨hb, h⟩ := h
  cases res with
  | some S => exact ⟨h, hb⟩
  | none => exact ⟨h, hb⟩

set_option maxHeartbeats 4000000 in
set_option maxRecDepth 100000 in
theorem lawSigns_any {ok : Nat → Prop} (s : ByteArray) (x : Jq.J) (v : Value) (key : List Nat) (A : Option Addr) (c : Nat) (w : World) (hH : Held w) (hT : Tab w) (hJ : IsJ w ok v x) (hk : ArgIs w A c key) (hn : key.length ≤ 140737488353000) :
    Calls Tryz.prog 3 #[.string s, v, .slice A key.length c] w (IsTrue w) := by
  obtain ⟨A1, c1, A2, c2, rfl⟩ := hJ.form
  obtain ⟨W0, eW0⟩ : ∃ W0, W0 = w.alloc (.cells #[.int .i64 x.kind, .bool x.bool, .int .i64 x.int, .string (strOf x.text), .slice A1 x.names.length c1, .slice A2 x.list.length c2] 25) := ⟨_, rfl⟩
  have hb0 : Below w.heap.size w W0 := by rw [eW0]; exact (Below.refl _ _).alloc (Nat.le_refl _) _
  have hl0 : Lies W0 w.heap.size 25 [.int .i64 x.kind, .bool x.bool, .int .i64 x.int, .string (strOf x.text), .slice A1 x.names.length c1, .slice A2 x.list.length c2] := by rw [eW0]; exact Lies.new_ rfl
  have hS := small_any x _ W0 (hJ.on hb0)
  rw [eW0] at hS
  have HW0 := Lib.hid eW0
  have HB0 := Lib.hid hb0
  have HL0 := Lib.hid hl0
  have HH := Lib.hid hH
  have HTt := Lib.hid hT
  have HS := Lib.hid hS
  have HQ := Lib.hid (fun W (h : Below w.heap.size w W) => refSign_any s x _ key A c W (hJ.on h) (hk.below h (Nat.le_refl _)) hn)
  have HP := Lib.hid (fun W (h : Below w.heap.size w W) => sign_any s x _ key A c W (hH.below h) (hT.below h hT.lt) (hJ.on h) (hk.below h (Nat.le_refl _)) (by omega))
  obtain ⟨RES, eR⟩ : ∃ RES, Wq.signP (numsOf s) x key = RES := ⟨_, rfl⟩
  simp only [eR] at HP HQ
  obtain ⟨⟨T, E⟩, eT⟩ : ∃ p, sgn RES = p := ⟨_, rfl⟩
  have HSh : Hid (∀ (W W' : World) (e : Ending), SignEnd RES W e W' → e = .returned (.tuple #[.string T, .int .i64 E]) ∧ Below W.heap.size W W') := fun W W' e h => by have := h.shows; rw [eT] at this; exact this
  clear hJ hH hT hk hn hb0 hl0 hS eW0 eR eT
  go_enter Tryz.func3, Tryz.ntmps3
  go_wp2_with fail
  refine HS.out.mono ?_
  rintro e w1 ⟨⟨r, rfl⟩, hb1⟩
  clear HS
  rw [← HW0.out] at hb1
  have hb2 := below_more HB0.out hb1
  have hl1 := HL0.out.below hb1 HL0.out.lt
  cases r
  · have hA := alive8_any w1 (HH.out.below hb2) (HTt.out.below hb2 HTt.out.lt)
    clear hb1 hl1
    go_wp2_with fail
    refine hA.mono ?_
    rintro e w2 ⟨rfl, hb3⟩
    have HE : Hid (IsTrue w (.returned (.bool true)) w2) := ⟨rfl, below_more hb2 hb3⟩
    clear hA hb2 hb3
    go_wp2
    go_ret
    exact HE.out
  have hP := HP.out w1 hb2
  obtain ⟨⟨z0, z1, z2, z3, z4, z5⟩, _⟩ := hl1.six
  have HL1 := Lib.hid hl1
  clear hb1 hl1
  go_wp2_with fail
  refine hP.mono ?_
  intro e w2 hh
  clear hP z0 z1 z2 z3 z4 z5
  obtain ⟨rfl, hb3⟩ := HSh.out _ _ _ hh
  have hb4 := below_more hb2 hb3
  have hl2 := HL1.out.below hb3 HL1.out.lt
  have hQ := HQ.out w2 hb4
  obtain ⟨⟨z0, z1, z2, z3, z4, z5⟩, _⟩ := hl2.six
  clear hh hb2 hb3 hl2
  go_wp2_with fail
  refine hQ.mono ?_
  intro e w3 hh
  clear hQ z0 z1 z2 z3 z4 z5
  obtain ⟨rfl, hb5⟩ := HSh.out _ _ _ hh
  have hb6 := below_more hb4 hb5
  have hA := alive8_any w3 (HH.out.below hb6) (HTt.out.below hb6 HTt.out.lt)
  clear hh hb4 hb5
  go_wp2_with fail
  refine hA.mono ?_
  rintro e w4 ⟨rfl, hb7⟩
  have HE : Hid (IsTrue w (.returned (.bool true)) w4) := ⟨rfl, below_more hb6 hb7⟩
  clear hA hb6 hb7
  go_wp2
  go_ret
  exact HE.out

end Go.Proofs.YtgojpcoaahcbeaaGreatDoor
