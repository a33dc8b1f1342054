/-
  The laws over the contracts: BerReads, BerNumbersRead.
-/
import Derived.Test.YtcpfkhodailbfaaTAlive
import Derived.Test.YtcpfkhodailbfaaTRSame
import Derived.Test.YtcpfkhodailbfaaTRWhole
namespace Go.Proofs.Ytcpfkhodailbfaa
open Go.RowKit
variable {HO : World → Prop}

def IsTrue (w : World) (e : Ending) (w' : World) : Prop := e = .returned (.bool true) ∧ Below w.heap.size w w'
/-- What Decode answers, as a pair. -/
def outD : Except Nat Bq.T → Bq.T × Int
  | .ok t => (t, 0)
  | .error n => (.mk 0 [] [], (n : Int))
theorem DecEnd.view {res : Except Nat Bq.T} {w w' : World} {e : Ending} (h : DecEnd res w e w') : ∃ ok a A1 n1 c1 A2 n2 c2, e = .returned (.tuple #[tv a (.slice A1 n1 c1) (.slice A2 n2 c2), .int .i64 (outD res).2]) ∧ IsT w' ok (tv a (.slice A1 n1 c1) (.slice A2 n2 c2)) (outD res).1 ∧ Below w.heap.size w w' := by
  rcases h.cases with ⟨t, A1, c1, A2, c2, rfl, rfl, hJ, hb⟩ | ⟨n, rfl, hn, rfl, hb⟩
  · exact ⟨_, _, _, _, _, _, _, _, rfl, hJ, hb⟩
  · exact ⟨fun _ => True, 0, none, 0, 0, none, 0, 0, rfl, .mk (vs := []) (by decide) (SlIs.nil _ _) ⟨by decide, by simp⟩ (SlIs.nil _ _) rfl (Nat.zero_le _) (fun i v x h => by simp at h), hb⟩

set_option maxHeartbeats 1000000 in
set_option maxRecDepth 100000 in
theorem lawReads (B : BerOk HO) (q : List Nat) (A : Option Addr) (c : Nat) (w : World) (hH : HO w) (hq : ArgIs w A c q) : Calls Try.prog 3 #[.slice A q.length c] w (IsTrue w) := by
  have hD := B.dec q A c w hH hq
  have HB := Lib.hid B
  have HH := Lib.hid hH
  have HQ := Lib.hid hq
  clear B hH hq
  go_enter Try.func3, Try.ntmps3
  go_wp2_with fail
  refine hD.mono ?_
  intro e w1 hh
  obtain ⟨ok, a, A1, n1, c1, A2, n2, c2, rfl, hJ, hb1⟩ := hh.view
  clear hh hD
  obtain ⟨W1, eW1⟩ : ∃ W1, W1 = w1.alloc (.cells #[.int .u8 (a : Int), .slice A1 n1 c1, .slice A2 n2 c2] 25) := ⟨_, rfl⟩
  have hbW1 : Below w1.heap.size w1 W1 := by rw [eW1]; exact (Below.refl _ _).alloc (Nat.le_refl _) _
  have hl1 : Lies W1 w1.heap.size 25 [.int .u8 (a : Int), .slice A1 n1 c1, .slice A2 n2 c2] := by rw [eW1]; exact Lies.new_ rfl
  have hb2 := below_more hb1 hbW1
  have hR := refDecode_any q A c W1 (HQ.out.below hb2 (Nat.le_refl _))
  rw [eW1] at hR
  have HW1 := Lib.hid eW1
  have HJ := Lib.hid (hJ.on hbW1)
  have HL := Lib.hid hl1
  clear hb1 hbW1 hl1 eW1 hJ
  go_wp2_with fail
  refine hR.mono ?_
  intro e w2 hh
  clear hR
  rw [← HW1.out] at hh
  obtain ⟨ok', a', B1, m1, d1, B2, m2, d2, rfl, hJ, hb3⟩ := hh.view
  generalize (outD (Bq.decode q)).1 = x at *
  generalize (outD (Bq.decode q)).2 = i at *
  clear hh
  obtain ⟨W2, eW2⟩ : ∃ W2, W2 = w2.alloc (.cells #[.int .u8 (a' : Int), .slice B1 m1 d1, .slice B2 m2 d2] 25) := ⟨_, rfl⟩
  have hbW2 : Below w2.heap.size w2 W2 := by rw [eW2]; exact (Below.refl _ _).alloc (Nat.le_refl _) _
  have hl2 : Lies W2 w2.heap.size 25 [.int .u8 (a' : Int), .slice B1 m1 d1, .slice B2 m2 d2] := by rw [eW2]; exact Lies.new_ rfl
  have hb23 := below_more hb3 hbW2
  have hb4 := below_more hb2 hb23
  have hA := alive_of HB.out W2 (HB.out.keep _ _ HH.out hb4)
  rw [eW2] at hA
  have HL2 := Lib.hid hl2
  have HL1 := Lib.hid (HL.out.below hb23 HL.out.lt)
  have HJ2 := Lib.hid (hJ.on hbW2)
  have HJ1 := Lib.hid (HJ.out.on hb23)
  have HW2 := Lib.hid eW2
  clear hb2 hb3 hbW2 hl2 hb23 hJ HJ HL HW1 HB HH HQ eW2
  go_wp2_with fail
  refine hA.mono ?_
  rintro e w3 ⟨rfl, hb5⟩
  clear hA
  rw [← HW2.out] at hb5
  have hb6 := below_more hb4 hb5
  have hS := refSame_any x x _ _ w3 (HJ1.out.on hb5) (HJ2.out.on hb5)
  obtain ⟨⟨z0, z1, z2⟩, _⟩ := (HL1.out.below hb5 HL1.out.lt).three
  obtain ⟨⟨y0, y1, y2⟩, _⟩ := (HL2.out.below hb5 HL2.out.lt).three
  clear hb4 hb5 HL1 HL2 HJ1 HJ2 HW2
  go_wp2_with fail
  refine hS.mono ?_
  rintro e w4 ⟨hb7, ⟨_, rfl⟩ | ⟨hn, rfl⟩⟩
  rotate_left
  · exact absurd trivial hn
  have HE : Hid (IsTrue w (.returned (.bool true)) w4) := ⟨rfl, below_more hb6 hb7⟩
  clear hS hb6 hb7 z0 z1 z2 y0 y1 y2
  go_wp2
  go_ret
  exact HE.out
end Go.Proofs.Ytcpfkhodailbfaa
