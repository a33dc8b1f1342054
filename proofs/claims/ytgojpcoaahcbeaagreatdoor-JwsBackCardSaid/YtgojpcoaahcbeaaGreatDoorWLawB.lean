/-
  The law JwsBack.
-/
import Derived.Test.YtgojpcoaahcbeaaGreatDoorWPD
import Derived.Test.YtgojpcoaahcbeaaGreatDoorQJ
import Derived.Test.YtgojpcoaahcbeaaGreatDoorQS
import Derived.Test.YtgojpcoaahcbeaaGreatDoorWWr
namespace Go.Proofs.YtgojpcoaahcbeaaGreatDoor
open Go.RowKit

set_option maxHeartbeats 4000000 in
set_option maxRecDepth 100000 in
theorem lawBack8_any {ok : Nat → Prop} (s : ByteArray) (x : Jq.J) (v : Value) (key : List Nat) (A : Option Addr) (c : Nat) (w : World) (hH : Held w) (hT : Tab w) (hJ : IsJ w ok v x) (hk : ArgIs w A c key) (hn : key.length ≤ 140737488353000) :
    Calls Tryz.prog 6 #[.string s, v, .slice A key.length c] w (IsTrue w) := by
  obtain ⟨A1, c1, A2, c2, rfl⟩ := hJ.form
  obtain ⟨W0, eW0⟩ : ∃ W0, W0 = w.alloc (.cells #[.int .i64 x.kind, .bool x.bool, .int .i64 x.int, .string (strOf x.text), .slice A1 x.names.length c1, .slice A2 x.list.length c2] 25) := ⟨_, rfl⟩
  have hb0 : Below w.heap.size w W0 := by rw [eW0]; exact (Below.refl _ _).alloc (Nat.le_refl _) _
  have hl0 : Lies W0 w.heap.size 25 [.int .i64 x.kind, .bool x.bool, .int .i64 x.int, .string (strOf x.text), .slice A1 x.names.length c1, .slice A2 x.list.length c2] := by rw [eW0]; exact Lies.new_ rfl
  have hS := small_any x _ W0 (hJ.on hb0)
  rw [eW0] at hS
  have HW0 := Lib.hid eW0
  have HB0 := Lib.hid hb0
  have HL0 := Lib.hid hl0
  have HH := Lib.hid hH
  have HTt := Lib.hid hT
  have HS := Lib.hid hS
  have HJ := Lib.hid hJ
  have HK := Lib.hid hk
  have HN := Lib.hid hn
  have HP := Lib.hid (fun W (h : Below w.heap.size w W) => sign_any s x _ key A c W (hH.below h) (hT.below h hT.lt) (hJ.on h) (hk.below h (Nat.le_refl _)) (by omega))
  obtain ⟨RES, eR⟩ : ∃ RES, Wq.signP (numsOf s) x key = RES := ⟨_, rfl⟩
  simp only [eR] at HP
  have HSg := Lib.hid eR
  clear hJ hH hT hk hn hb0 hl0 hS eW0 eR
  go_enter Tryz.func6, Tryz.ntmps6
  go_wp2_with fail
  refine HS.out.mono ?_
  rintro e w1 ⟨⟨r, rfl⟩, hb1⟩
  clear HS
  rw [← HW0.out] at hb1
  have hb2 := below_more HB0.out hb1
  have hl1 := HL0.out.below hb1 HL0.out.lt
  cases r
  · have hA := alive8_any w1 (HH.out.below hb2) (HTt.out.below hb2 HTt.out.lt)
    clear hb1 hl1
    go_wp2_with fail
    refine hA.mono ?_
    rintro e w2 ⟨rfl, hb3⟩
    have HE : Hid (IsTrue w (.returned (.bool true)) w2) := ⟨rfl, below_more hb2 hb3⟩
    clear hA hb2 hb3
    go_wp2
    go_ret
    exact HE.out
  have hP := HP.out w1 hb2
  obtain ⟨⟨z0, z1, z2, z3, z4, z5⟩, _⟩ := hl1.six
  have HL1 := Lib.hid hl1
  clear hb1 hl1
  go_wp2_with fail
  refine hP.mono ?_
  intro e w2 hh
  clear hP HP z0 z1 z2 z3 z4 z5
  cases RES with
  | none =>
    obtain ⟨hb3, rfl⟩ := hh
    have hb4 := below_more hb2 hb3
    have hA := alive8_any w2 (HH.out.below hb4) (HTt.out.below hb4 HTt.out.lt)
    clear hb2 hb3
    go_wp2_with fail
    refine hA.mono ?_
    rintro e w3 ⟨rfl, hb5⟩
    have HE : Hid (IsTrue w (.returned (.bool true)) w3) := ⟨rfl, below_more hb4 hb5⟩
    clear hA hb4 hb5
    go_wp2
    go_ret
    exact HE.out
  | some S =>
    obtain ⟨hb3, rfl⟩ := hh
    have hb4 := below_more hb2 hb3
    have hl2 := HL1.out.below hb3 HL1.out.lt
    obtain ⟨G, hOp, hSl, hGl, hSn, hGn⟩ := Wq.open_signed HSg.out
    have hO := open_any (strOf S) w2 (HH.out.below hb4) (by rw [strOf_size]; omega)
    rw [numsOf_strOf hSl, hOp] at hO
    have HG : Hid ((strOf G).size ≤ 10000 ∧ numsOf (strOf G) = G) := ⟨by rw [strOf_size]; omega, numsOf_strOf hGl⟩
    obtain ⟨X, eX⟩ : ∃ X, strOf S = X := ⟨_, rfl⟩
    rw [eX] at hO ⊢
    clear hb2 hb3 hOp hSl hGl hSn hGn eX
    have HL2 := Lib.hid hl2
    clear hl2
    go_wp2_with fail
    refine hO.mono ?_
    intro e w3 hh
    clear hO
    obtain ⟨hb5, B1, B2, B3, d1, d2, d3, rfl, hJ3, hA3, _⟩ := hh
    rw [strOf_numsOf]
    have hb6 := below_more hb4 hb5
    have hl3 := HL2.out.below hb5 HL2.out.lt
    obtain ⟨GB, eG⟩ : ∃ GB, strOf G = GB := ⟨_, rfl⟩
    obtain ⟨M, eM⟩ : ∃ M, Sha.mac key G = M := ⟨_, rfl⟩
    rw [eG] at HG
    rw [eM] at hA3
    rw [eG, eM]
    have HM := Lib.hid eM
    obtain ⟨W3, eW3⟩ : ∃ W3, W3 = w3.alloc (.cells #[.string s, .int .i64 x.kind, .bool x.bool, .int .i64 x.int, .string (strOf x.text), .slice B1 x.names.length d1, .slice B2 x.list.length d2, .string GB, .slice B3 M.length d3] 34) := ⟨_, rfl⟩
    have hbW : Below w3.heap.size w3 W3 := by rw [eW3]; exact (Below.refl _ _).alloc (Nat.le_refl _) _
    have hlW : Lies W3 w3.heap.size 34 [.string s, .int .i64 x.kind, .bool x.bool, .int .i64 x.int, .string (strOf x.text), .slice B1 x.names.length d1, .slice B2 x.list.length d2, .string GB, .slice B3 M.length d3] := by rw [eW3]; exact Lies.new_ rfl
    have hb7 := below_more hb6 hbW
    have hA := alive8_any W3 (HH.out.below hb7) (HTt.out.below hb7 HTt.out.lt)
    rw [eW3] at hA
    have HW3 := Lib.hid eW3
    have HLW := Lib.hid hlW
    have HL3 := Lib.hid (hl3.below hbW hl3.lt)
    have HJW := Lib.hid (hJ3.on hbW)
    have HAW := Lib.hid (hA3.below hbW (Nat.le_refl _))
    clear hb4 hb5 hb6 hl3 hbW hlW hJ3 hA3 eG eM eW3
    go_wp2_with fail
    refine hA.mono ?_
    rintro e w4 ⟨rfl, hb8⟩
    clear hA
    rw [← HW3.out] at hb8
    have hb9 := below_more hb7 hb8
    have hR := refSame_any x x _ _ w4 (HJW.out.on hb8) (HJ.out.on hb9)
    obtain ⟨⟨z0, z1, z2, z3, z4, z5⟩, _⟩ := (HL3.out.below hb8 HL3.out.lt).six
    obtain ⟨⟨y0, y1, y2, y3, y4, y5, y6, y7, y8⟩, _⟩ := (HLW.out.below hb8 HLW.out.lt).nine
    have HL4 := Lib.hid (HLW.out.below hb8 HLW.out.lt)
    have HA4 := Lib.hid (HAW.out.below hb8 (Nat.le_refl _))
    clear hb7 hb8
    go_wp2_with fail
    refine hR.mono ?_
    rintro e w5 ⟨hb10, ⟨_, rfl⟩ | ⟨hn, rfl⟩⟩
    rotate_left
    · exact absurd trivial hn
    clear hR z0 z1 z2 z3 z4 z5 y0 y1 y2 y3 y4 y5 y6 y7 y8
    have hb11 := below_more hb9 hb10
    have hV := verify_any s GB x.kind x.bool x.int (strOf x.text) B1 B2 x.names.length d1 x.list.length d2 M key B3 A d3 c w5 (HTt.out.below hb11 HTt.out.lt) (HA4.out.below hb10 (Nat.le_refl _)) (HK.out.below hb11 (Nat.le_refl _)) (by have := HN.out; omega) (by have := HG.out.1; omega)
    rw [HG.out.2, HM.out, decide_eq_true rfl] at hV
    obtain ⟨⟨y0, y1, y2, y3, y4, y5, y6, y7, y8⟩, _⟩ := (HL4.out.below hb10 HL4.out.lt).nine
    clear hb9 hb10
    go_wp2_with fail
    refine hV.mono ?_
    rintro e w6 ⟨rfl, hb12⟩
    have HE : Hid (IsTrue w (.returned (.bool true)) w6) := ⟨rfl, below_more hb11 hb12⟩
    clear hV hb11 hb12 y0 y1 y2 y3 y4 y5 y6 y7 y8
    go_wp2
    go_ret
    exact HE.out
end Go.Proofs.YtgojpcoaahcbeaaGreatDoor
