/-
  The laws over the contracts: BerWrites, BerBack.
-/
import Derived.Test.YtcpfkhodailbfaaTLaws2
import Derived.Test.YtcpfkhodailbfaaTSmall
namespace Go.Proofs.Ytcpfkhodailbfaa
open Go.RowKit
variable {HO : World → Prop}

/-- What Encode answers, as a pair. -/
def outE : Except Nat (List Nat) → List Nat × Int
  | .ok q => (q, 0)
  | .error n => ([], (n : Int))
theorem EncEnd.view {res : Except Nat (List Nat)} {w w' : World} {e : Ending} (h : EncEnd res w e w') : ∃ A c, e = .returned (.tuple #[.slice A (outE res).1.length c, .int .i64 (outE res).2]) ∧ ArgIs w' A c (outE res).1 ∧ Below w.heap.size w w' := by
  rcases h.cases with ⟨q, A, c, rfl, rfl, hq, hb⟩ | ⟨n, rfl, hn, rfl, hb⟩
  · exact ⟨_, _, rfl, hq, hb⟩
  · exact ⟨none, 0, rfl, ⟨Nat.le_refl _, by decide, by simp [outE], fun h => absurd h (by simp [outE])⟩, hb⟩

set_option maxHeartbeats 1000000 in
set_option maxRecDepth 100000 in
theorem lawWrites (B : BerOk HO) {ok : Nat → Prop} (v : Value) (t : Bq.T) (w : World) (hH : HO w) (hJ : IsT w ok v t) : Calls Try.prog 4 #[v] w (IsTrue w) := by
  obtain ⟨A1, c1, A2, c2, rfl⟩ := hJ.form
  obtain ⟨W0, eW0⟩ : ∃ W0, W0 = w.alloc (.cells #[.int .u8 (t.tag : Int), .slice A1 t.bytes.length c1, .slice A2 t.list.length c2] 25) := ⟨_, rfl⟩
  have hb0 : Below w.heap.size w W0 := by rw [eW0]; exact (Below.refl _ _).alloc (Nat.le_refl _) _
  have HL0 : Hid (Lies W0 w.heap.size 25 [.int .u8 (t.tag : Int), .slice A1 t.bytes.length c1, .slice A2 t.list.length c2]) := by unfold Hid; rw [eW0]; exact Lies.new_ rfl
  have hS := small_any t _ W0 (hJ.on hb0)
  rw [eW0] at hS
  have HJ := Lib.hid (hJ.on hb0)
  have HB := Lib.hid B
  have HH := Lib.hid (B.keep _ _ hH hb0)
  have HBW := Lib.hid hb0
  have HE := Lib.hid eW0
  clear B hH hJ hb0 eW0
  go_enter Try.func4, Try.ntmps4
  go_wp2_with fail
  refine hS.mono ?_
  rintro e w1 ⟨⟨r, rfl⟩, hb1⟩
  clear hS
  rw [← HE.out] at hb1
  have hw1 := HB.out.keep _ _ HH.out hb1
  obtain ⟨⟨z0, z1, z2⟩, _⟩ := (HL0.out.below hb1 HL0.out.lt).three
  cases r
  · have hA := alive_of HB.out w1 hw1
    have HB1 := Lib.hid (below_more HBW.out hb1)
    clear hb1 hw1
    go_wp2_with fail
    refine hA.mono ?_
    rintro e w2 ⟨rfl, hb2⟩
    have HQ : Hid (IsTrue w (.returned (.bool true)) w2) := ⟨rfl, below_more HB1.out hb2⟩
    clear hA hb2 z0 z1 z2
    go_wp2
    go_ret
    exact HQ.out
  have hEn := HB.out.enc _ _ t w1 hw1 (HJ.out.on hb1)
  clear hw1
  go_wp2_with fail
  refine hEn.mono ?_
  intro e w2 hh
  clear hEn z0 z1 z2
  obtain ⟨A3, c3, rfl, hq, hb2⟩ := hh.view
  have hb12 := below_more hb1 hb2
  have hRn := refEncode_any _ t w2 (HJ.out.on hb12)
  obtain ⟨⟨z0, z1, z2⟩, _⟩ := (HL0.out.below hb12 HL0.out.lt).three
  generalize Bq.encode t = res at *
  have HQ := Lib.hid hq
  clear hh hb1 hq
  go_wp2_with fail
  refine hRn.mono ?_
  intro e w3 hh
  clear hRn z0 z1 z2
  obtain ⟨A4, c4, rfl, hq, hb3⟩ := hh.view
  have hb13 := below_more hb12 hb3
  have hA := alive_of HB.out w3 (HB.out.keep _ _ HH.out hb13)
  have HQ1 := Lib.hid (HQ.out.on hb3)
  have HQ2 := Lib.hid hq
  generalize (outE res).1 = q at *
  generalize (outE res).2 = i at *
  clear hh hb12 hb2 hb3 hq HQ
  go_wp2_with fail
  refine hA.mono ?_
  rintro e w4 ⟨rfl, hb4⟩
  have v1 := conv_str (HQ1.out.on hb4)
  have v2 := conv_str (HQ2.out.on hb4)
  have HF : Hid (IsTrue w (.returned (.bool true)) w4) := ⟨rfl, below_more (below_more HBW.out hb13) hb4⟩
  clear hA hb13 hb4 HQ1 HQ2 HBW HB HH HJ
  go_wp2
  go_ret
  exact HF.out

set_option maxHeartbeats 1000000 in
set_option maxRecDepth 100000 in
theorem lawBack (B : BerOk HO) {ok : Nat → Prop} (v : Value) (t : Bq.T) (w : World) (hH : HO w) (hJ : IsT w ok v t) : Calls Try.prog 5 #[v] w (IsTrue w) := by
  obtain ⟨A1, c1, A2, c2, rfl⟩ := hJ.form
  obtain ⟨W0, eW0⟩ : ∃ W0, W0 = w.alloc (.cells #[.int .u8 (t.tag : Int), .slice A1 t.bytes.length c1, .slice A2 t.list.length c2] 25) := ⟨_, rfl⟩
  have hb0 : Below w.heap.size w W0 := by rw [eW0]; exact (Below.refl _ _).alloc (Nat.le_refl _) _
  have HL0 : Hid (Lies W0 w.heap.size 25 [.int .u8 (t.tag : Int), .slice A1 t.bytes.length c1, .slice A2 t.list.length c2]) := by unfold Hid; rw [eW0]; exact Lies.new_ rfl
  have hS := small_any t _ W0 (hJ.on hb0)
  rw [eW0] at hS
  have HJ := Lib.hid (hJ.on hb0)
  have HB := Lib.hid B
  have HH := Lib.hid (B.keep _ _ hH hb0)
  have HBW := Lib.hid hb0
  have HE := Lib.hid eW0
  clear B hH hJ hb0 eW0
  go_enter Try.func5, Try.ntmps5
  go_wp2_with fail
  refine hS.mono ?_
  rintro e w1 ⟨⟨r, rfl⟩, hb1⟩
  clear hS
  rw [← HE.out] at hb1
  have hw1 := HB.out.keep _ _ HH.out hb1
  obtain ⟨⟨z0, z1, z2⟩, _⟩ := (HL0.out.below hb1 HL0.out.lt).three
  cases r
  · have hA := alive_of HB.out w1 hw1
    have HB1 := Lib.hid (below_more HBW.out hb1)
    clear hb1 hw1
    go_wp2_with fail
    refine hA.mono ?_
    rintro e w2 ⟨rfl, hb2⟩
    have HQ : Hid (IsTrue w (.returned (.bool true)) w2) := ⟨rfl, below_more HB1.out hb2⟩
    clear hA hb2 z0 z1 z2
    go_wp2
    go_ret
    exact HQ.out
  have hEn := HB.out.enc _ _ t w1 hw1 (HJ.out.on hb1)
  clear hw1
  go_wp2_with fail
  refine hEn.mono ?_
  intro e w2 hh
  clear hEn z0 z1 z2
  have HV := Lib.hid hh
  obtain ⟨A3, c3, rfl, hq, hb2⟩ := hh.view
  have hb12 := below_more hb1 hb2
  have hD := HB.out.dec _ A3 c3 w2 (HB.out.keep _ _ HH.out hb12) hq
  clear hh hb1 hq
  go_wp2_with fail
  refine hD.mono ?_
  intro e w3 hh
  clear hD
  have HD := Lib.hid hh
  obtain ⟨ok', a, B1, m1, d1, B2, m2, d2, rfl, hK, hb3⟩ := hh.view
  have hb13 := below_more hb12 hb3
  obtain ⟨W3, eW3⟩ : ∃ W3, W3 = w3.alloc (.cells #[.int .u8 (a : Int), .slice B1 m1 d1, .slice B2 m2 d2] 25) := ⟨_, rfl⟩
  have hbW : Below w3.heap.size w3 W3 := by rw [eW3]; exact (Below.refl _ _).alloc (Nat.le_refl _) _
  have hlW : Lies W3 w3.heap.size 25 [.int .u8 (a : Int), .slice B1 m1 d1, .slice B2 m2 d2] := by rw [eW3]; exact Lies.new_ rfl
  have hb14 := below_more hb13 hbW
  have hA := alive_of HB.out W3 (HB.out.keep _ _ HH.out hb14)
  rw [eW3] at hA
  have HW3 := Lib.hid eW3
  have HK := Lib.hid (hK.on hbW)
  have HLW := Lib.hid hlW
  clear hh hb12 hb13 hb2 hb3 hK hbW hlW eW3
  have hrel : (outE (Bq.encode t)).2 = 0 → (outD (Bq.decode (outE (Bq.encode t)).1)).2 = 0 ∧ (outD (Bq.decode (outE (Bq.encode t)).1)).1 = t := fun hz => by
    rcases HV.out.cases with ⟨q, _, _, hq, _⟩ | ⟨n, h, hn, _⟩
    · have hd := Bq.encode_back hq
      rw [hq, show (outE (Except.ok q)).1 = q from rfl, hd]
      exact ⟨rfl, rfl⟩
    · rw [h] at hz; exact absurd hz (by show ¬ ((n : Int) = 0); omega)
  clear HV HD
  generalize (outE (Bq.encode t)).1.length = L at *
  generalize (outE (Bq.encode t)).2 = I at *
  generalize (outD (Bq.decode (outE (Bq.encode t)).1)).2 = J at *
  generalize (outD (Bq.decode (outE (Bq.encode t)).1)).1 = X at *
  by_cases hz : I = 0
  · obtain ⟨rfl, rfl⟩ := hrel hz
    subst hz
    clear hrel
    go_wp2_with fail
    refine hA.mono ?_
    rintro e w4 ⟨rfl, hb4⟩
    rw [← HW3.out] at hb4
    have hb5 := below_more hb14 hb4
    have hJ4 := HJ.out.on hb5
    have hK4 := HK.out.on hb4
    obtain ⟨⟨z0, z1, z2⟩, _⟩ := (HL0.out.below hb5 HL0.out.lt).three
    obtain ⟨⟨y0, y1, y2⟩, _⟩ := (HLW.out.below hb4 HLW.out.lt).three
    have hS := refSame_any X X _ _ w4 hJ4 hK4
    have HB5 := Lib.hid (below_more HBW.out hb5)
    clear hA hb4 hb5 hb14 hJ4 hK4 HLW HL0 HK HJ HW3 HE
    go_wp2_with fail
    refine hS.mono ?_
    rintro e w5 ⟨hb7, ⟨_, rfl⟩ | ⟨hn, rfl⟩⟩
    rotate_left
    · exact absurd trivial hn
    have HF : Hid (IsTrue w (.returned (.bool true)) w5) := ⟨rfl, below_more HB5.out hb7⟩
    clear hS hb7 z0 z1 z2 y0 y1 y2 HB5
    go_wp2
    go_ret
    exact HF.out
  · have hd : (I != 0) = true := bne_iff_ne.2 hz
    clear hrel hz
    go_wp2_with fail
    refine hA.mono ?_
    rintro e w4 ⟨rfl, hb4⟩
    rw [← HW3.out] at hb4
    have HF : Hid (IsTrue w (.returned (.bool true)) w4) := ⟨rfl, below_more HBW.out (below_more hb14 hb4)⟩
    clear hA hb4 hb14 HLW HL0 HK HJ HW3 HE
    go_wp2
    go_ret
    exact HF.out
end Go.Proofs.Ytcpfkhodailbfaa
