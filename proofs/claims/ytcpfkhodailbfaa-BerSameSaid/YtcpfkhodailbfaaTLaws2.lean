/-
  The laws over the contracts: BerNumbersRead, BerAgain.
-/
import Derived.Test.YtcpfkhodailbfaaTLaws
namespace Go.Proofs.Ytcpfkhodailbfaa
open Go.RowKit
variable {HO : World → Prop}

set_option maxHeartbeats 1000000 in
set_option maxRecDepth 100000 in
theorem lawNumbersRead (B : BerOk HO) (q : List Nat) (A : Option Addr) (c : Nat) (w : World) (hH : HO w) (hq : ArgIs w A c q) : Calls Try.prog 9 #[.slice A q.length c] w (IsTrue w) := by
  have hN := B.number q A c w hH hq
  have HB := Lib.hid B
  have HH := Lib.hid hH
  have HQ := Lib.hid hq
  clear B hH hq
  go_enter Try.func9, Try.ntmps9
  go_wp2_with fail
  refine hN.mono ?_
  rintro e w1 ⟨rfl, hb1⟩
  have hR := refNumber_any q A c w1 (HQ.out.on hb1)
  generalize ((numberP q).1 : Int) = i at *
  generalize (numberP q).2 = b at *
  clear hN
  go_wp2_with fail
  refine hR.mono ?_
  rintro e w2 ⟨rfl, hb2⟩
  have hb3 := below_more hb1 hb2
  have hA := alive_of HB.out w2 (HB.out.keep _ _ HH.out hb3)
  clear hR hb2 hb1 HB HH HQ
  go_wp2_with fail
  refine hA.mono ?_
  rintro e w3 ⟨rfl, hb4⟩
  have HE : Hid (IsTrue w (.returned (.bool true)) w3) := ⟨rfl, below_more hb3 hb4⟩
  clear hA hb3 hb4
  go_wp2
  go_ret
  exact HE.out

set_option maxHeartbeats 1000000 in
set_option maxRecDepth 100000 in
theorem lawAgain (B : BerOk HO) (q : List Nat) (A : Option Addr) (c : Nat) (w : World) (hH : HO w) (hq : ArgIs w A c q) : Calls Try.prog 6 #[.slice A q.length c] w (IsTrue w) := by
  have hD := B.dec q A c w hH hq
  have HB := Lib.hid B
  have HH := Lib.hid hH
  have HQ := Lib.hid hq
  clear B hH hq
  go_enter Try.func6, Try.ntmps6
  go_wp2_with fail
  refine hD.mono ?_
  intro e w1 hh
  clear hD
  rcases hh.cases with ⟨t, A1, c1, A2, c2, hr, rfl, hJ, hb1⟩ | ⟨n, hr, hn, rfl, hb1⟩
  rotate_left
  · have hd : ((n : Int) != 0) = true := by rw [bne_iff_ne]; omega
    have hb2 := below_alloc hb1 (.cells #[.int .u8 0, nilS, nilS] 25)
    have hA := alive_of HB.out _ (HB.out.keep _ _ HH.out hb2)
    clear hh hr hn hb1 HB HH HQ
    go_wp2_with fail
    refine hA.mono ?_
    rintro e w2 ⟨rfl, hb3⟩
    have HE : Hid (IsTrue w (.returned (.bool true)) w2) := ⟨rfl, below_more hb2 hb3⟩
    clear hA hb2 hb3
    go_wp2
    go_ret
    exact HE.out
  have hen := Bq.decode_back HQ.out.2.2.1 hr
  obtain ⟨W1, eW1⟩ : ∃ W1, W1 = w1.alloc (.cells #[.int .u8 (t.tag : Int), .slice A1 t.bytes.length c1, .slice A2 t.list.length c2] 25) := ⟨_, rfl⟩
  have hbW1 : Below w1.heap.size w1 W1 := by rw [eW1]; exact (Below.refl _ _).alloc (Nat.le_refl _) _
  have hb2 := below_more hb1 hbW1
  have hE := HB.out.enc _ _ t W1 (HB.out.keep _ _ HH.out hb2) (hJ.on hbW1)
  rw [hen] at hE
  rw [eW1] at hE
  have HW1 := Lib.hid eW1
  clear hb1 hbW1 eW1 hJ hh hr hen
  go_wp2_with fail
  refine hE.mono ?_
  intro e w2 hh
  rw [← HW1.out] at hh
  clear hE
  rcases hh.cases with ⟨q', A', c', hr, rfl, hq, hb3⟩ | ⟨n, hr, _⟩
  rotate_left
  · cases hr
  injection hr with hr
  subst hr
  have hb4 := below_more hb2 hb3
  have hA := alive_of HB.out w2 (HB.out.keep _ _ HH.out hb4)
  have HQ' := Lib.hid hq
  clear hh hq hb3 hb2 HW1
  go_wp2_with fail
  refine hA.mono ?_
  rintro e w3 ⟨rfl, hb5⟩
  have hb6 := below_more hb4 hb5
  have v1 := conv_str (HQ'.out.on hb5)
  have v2 := conv_str (HQ.out.on hb6)
  have HE : Hid (IsTrue w (.returned (.bool true)) w3) := ⟨rfl, hb6⟩
  clear hA hb5 hb6 hb4 HB HH HQ HQ'
  go_wp2
  go_ret
  exact HE.out
end Go.Proofs.Ytcpfkhodailbfaa
