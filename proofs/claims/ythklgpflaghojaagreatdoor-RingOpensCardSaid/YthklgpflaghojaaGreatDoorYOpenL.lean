/-
  The law RingOpens.
-/
import Derived.Test.YthklgpflaghojaaGreatDoorYOpn
namespace Go.Proofs.YthklgpflaghojaaGreatDoor
open Go.RowKit

set_option maxHeartbeats 4000000 in
set_option maxRecDepth 100000 in
theorem lawOpens9_any {ok : Nat → Prop} (l : List Kq.K) (A : Option Addr) (c n : Nat) (s : ByteArray) (now : Int) (w : World) (hH : Held w) (hT : Tab w) (hL : KsIs w ok (.slice A n c) l) (hn : l.length = n) (hS : ∀ x ∈ l, x.secret.length ≤ 140737488353000) (hs : s.size ≤ 140737488355328) :
    Calls Tryz.prog 3 #[.slice A n c, .string s, .int .i64 now] w (IsTrue w) := by
  have hP := open9_any l A c n s now w hH hT hs hL hn
  have HQ : Hid (∀ W, Below w.heap.size w W → Calls Tryz.prog 6 #[.slice A n c, .string s, .int .i64 now] W (OpenEnd (openR l (numsOf s) now) W)) := fun W hW => refOpen9_any l A c n s now W hS (hL.on hW) hn
  obtain ⟨RES, eR⟩ : ∃ RES, openR l (numsOf s) now = RES := ⟨_, rfl⟩
  rw [eR] at hP
  simp only [eR] at HQ
  obtain ⟨⟨kb, x, sb, q, E⟩, eT⟩ : ∃ T, shown RES = T := ⟨_, rfl⟩
  have HSh : Hid (∀ (W W' : World) (e : Ending), OpenEnd RES W e W' → Shows kb x sb q E W e W') := fun W W' e h => by have := h.shows; rw [eT] at this; exact this
  clear hH hT hs eR eT hL hn hS
  go_enter Tryz.func3, Tryz.ntmps3
  go_wp2_with fail
  refine hP.mono ?_
  intro e w1 hh
  clear hP
  obtain ⟨hb1, A1, A2, A3, c1, c2, c3, rfl, hJ, hA⟩ := HSh.out _ _ _ hh
  obtain ⟨W1, eW1⟩ : ∃ W1, W1 = w1.alloc (.cells #[.string kb, .int .i64 x.kind, .bool x.bool, .int .i64 x.int, .string (strOf x.text), .slice A1 x.names.length c1, .slice A2 x.list.length c2, .string sb, .slice A3 q.length c3] 29) := ⟨_, rfl⟩
  have hbW1 : Below w1.heap.size w1 W1 := by rw [eW1]; exact (Below.refl _ _).alloc (Nat.le_refl _) _
  have hl1 : Lies W1 w1.heap.size 29 [.string kb, .int .i64 x.kind, .bool x.bool, .int .i64 x.int, .string (strOf x.text), .slice A1 x.names.length c1, .slice A2 x.list.length c2, .string sb, .slice A3 q.length c3] := by rw [eW1]; exact Lies.new_ rfl
  have hJ1 := hJ.on hbW1
  have hA1 := hA.below hbW1 (Nat.le_refl _)
  have hb2 := below_more hb1 hbW1
  have hQ := HQ.out W1 hb2
  rw [eW1] at hQ
  have HW1 := Lib.hid eW1
  clear hh hb1 hJ hA hbW1 eW1
  go_wp2_with fail
  refine hQ.mono ?_
  intro e w2 hh
  clear hQ
  rw [← HW1.out] at hh
  obtain ⟨hb3, B1, B2, B3, d1, d2, d3, rfl, hK, hB⟩ := HSh.out _ _ _ hh
  obtain ⟨W2, eW2⟩ : ∃ W2, W2 = w2.alloc (.cells #[.string kb, .int .i64 x.kind, .bool x.bool, .int .i64 x.int, .string (strOf x.text), .slice B1 x.names.length d1, .slice B2 x.list.length d2, .string sb, .slice B3 q.length d3] 29) := ⟨_, rfl⟩
  have hbW2 : Below w2.heap.size w2 W2 := by rw [eW2]; exact (Below.refl _ _).alloc (Nat.le_refl _) _
  have hl2 : Lies W2 w2.heap.size 29 [.string kb, .int .i64 x.kind, .bool x.bool, .int .i64 x.int, .string (strOf x.text), .slice B1 x.names.length d1, .slice B2 x.list.length d2, .string sb, .slice B3 q.length d3] := by rw [eW2]; exact Lies.new_ rfl
  have hb4 := below_more (below_more hb2 hb3) hbW2
  have HL1 := Lib.hid ((hl1.below hb3 hl1.lt).below hbW2 (hl1.below hb3 hl1.lt).lt)
  have HJ1 := Lib.hid ((hJ1.on hb3).on hbW2)
  have HA1 := Lib.hid ((hA1.below hb3 (Nat.le_refl _)).below hbW2 (Nat.le_refl _))
  have HL2 := Lib.hid hl2
  have HK2 := Lib.hid (hK.on hbW2)
  have HB2 := Lib.hid (hB.below hbW2 (Nat.le_refl _))
  have hAl := alive9_any W2
  rw [eW2] at hAl
  have HW2 := Lib.hid eW2
  clear hh hb2 hb3 hK hB hbW2 hl1 hJ1 hA1 hl2 eW2
  go_wp2_with fail
  refine hAl.mono ?_
  rintro e w3 ⟨rfl, hb5⟩
  clear hAl
  rw [← HW2.out] at hb5
  have hb6 := below_more hb4 hb5
  have hS := refSame8_any kb sb q x A1 A2 A3 B1 B2 B3 c1 c2 c3 d1 d2 d3 w3 (HJ1.out.on hb5) (HK2.out.on hb5) (HA1.out.below hb5 (Nat.le_refl _)) (HB2.out.below hb5 (Nat.le_refl _))
  obtain ⟨⟨y0, y1, y2, y3, y4, y5, y6, y7, y8⟩, _⟩ := (HL1.out.below hb5 HL1.out.lt).nine
  obtain ⟨⟨z0, z1, z2, z3, z4, z5, z6, z7, z8⟩, _⟩ := (HL2.out.below hb5 HL2.out.lt).nine
  clear hb4 hb5
  go_wp2_with fail
  refine hS.mono ?_
  rintro e w4 ⟨rfl, hb7⟩
  have HE : Hid (IsTrue w (.returned (.bool true)) w4) := ⟨rfl, below_more hb6 hb7⟩
  clear hS hb6 hb7 y0 y1 y2 y3 y4 y5 y6 y7 y8 z0 z1 z2 z3 z4 z5 z6 z7 z8
  go_wp2
  go_ret
  exact HE.out

end Go.Proofs.YthklgpflaghojaaGreatDoor
