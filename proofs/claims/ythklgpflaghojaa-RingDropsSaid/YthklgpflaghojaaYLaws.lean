/-
  The laws RingRight, RingDrops, RingRotates.
-/
import Derived.Test.YthklgpflaghojaaYAlive
import Derived.Test.YthklgpflaghojaaYRotR
import Derived.Test.YthklgpflaghojaaYSame
namespace Go.Proofs.Ythklgpflaghojaa
open Go.RowKit

theorem Tells.tell {P : Prop} {w w' : World} {e : Ending} (h : Tells P w e w') : ∃ r : Bool, e = .returned (.bool r) ∧ (r = true ↔ P) ∧ Below w.heap.size w w' := h.as
open Classical in
theorem Tells.dec {P : Prop} {w w' : World} {e : Ending} (h : Tells P w e w') : e = .returned (.bool (decide P)) ∧ Below w.heap.size w w' := by
  obtain ⟨hb, ⟨h, rfl⟩ | ⟨h, rfl⟩⟩ := h
  · exact ⟨by rw [decide_eq_true h], hb⟩
  · exact ⟨by rw [decide_eq_false h], hb⟩

open Classical in
set_option maxHeartbeats 1000000 in
set_option maxRecDepth 100000 in
theorem lawRight_any {ok : Nat → Prop} (l : List Kq.K) (A : Option Addr) (c n : Nat) (w : World) (hL : KsIs w ok (.slice A n c) l) (hn : l.length = n) :
    Calls Try.prog 3 #[.slice A n c] w (IsTrue w) := by
  have hA := alive9_any w
  have HL := Lib.hid hL
  have HN := Lib.hid hn
  obtain ⟨R, eR⟩ : ∃ R, decide (Kq.Right l) = R := ⟨_, rfl⟩
  have HR := Lib.hid eR
  clear hL hn eR
  go_enter Try.func3, Try.ntmps3
  go_wp2_with fail
  refine hA.mono ?_
  rintro e w1 ⟨rfl, hb1⟩
  clear hA
  have hP := right_any l A c n w1 (HL.out.on hb1) HN.out
  go_wp2_with fail
  refine hP.mono ?_
  intro e w2 hh
  clear hP
  obtain ⟨rfl, hb2⟩ := hh.dec
  rw [HR.out]
  have hb3 := below_more hb1 hb2
  have hQ := refRight_any l A c n w2 (HL.out.on hb3) HN.out
  clear hh hb1 hb2
  go_wp2_with fail
  refine hQ.mono ?_
  intro e w3 hh
  clear hQ
  obtain ⟨rfl, hb4⟩ := hh.dec
  rw [HR.out]
  have HE : Hid (IsTrue w (.returned (.bool true)) w3) := ⟨rfl, below_more hb3 hb4⟩
  have hRR : (R == R) = true := by simp
  clear hh hb3 hb4
  go_wp2
  go_ret
  exact HE.out

set_option maxHeartbeats 1000000 in
set_option maxRecDepth 100000 in
theorem lawDrops_any {ok : Nat → Prop} (l : List Kq.K) (A : Option Addr) (c n : Nat) (now : Int) (w : World) (hL : KsIs w ok (.slice A n c) l) (hn : l.length = n) :
    Calls Try.prog 5 #[.slice A n c, .int .i64 now] w (IsTrue w) := by
  have hA := alive9_any w
  have hcN := hL.len
  rw [hn] at hcN
  have HL := Lib.hid hL
  have HN := Lib.hid hn
  have HLE : Hid ((Kq.drop now l).length * 56 ≤ 140737488355328) := by
    have := Kq.drop_len now l
    unfold Hid
    omega
  clear hL hn
  go_enter Try.func5, Try.ntmps5
  go_wp2_with fail
  refine hA.mono ?_
  rintro e w1 ⟨rfl, hb1⟩
  clear hA
  have hP := drop_any l A c n now w1 (HL.out.on hb1) HN.out
  go_wp2_with fail
  refine hP.mono ?_
  rintro e w2 ⟨v2, rfl, hr2, hb2⟩
  clear hP
  have hb3 := below_more hb1 hb2
  have hK2 := hr2.list (Q := fun _ => True) (fun _ _ => trivial) (fun _ _ => trivial) HLE.out
  obtain ⟨A2, c2, rfl⟩ := hK2.form
  have HK2 := Lib.hid hK2
  have hQ := refDrop_any l A c n now w2 (HL.out.on hb3).low HN.out (fun _ h => h)
  clear hb1 hb2 hr2 hK2
  go_wp2_with fail
  refine hQ.mono ?_
  rintro e w3 ⟨v3, rfl, hr3, hb4⟩
  clear hQ
  have hK3 := hr3.list (Q := fun _ => True) (fun _ _ => trivial) (fun _ _ => trivial) HLE.out
  obtain ⟨A3, c3, rfl⟩ := hK3.form
  have hS := same9_any _ _ A2 A3 c2 c3 _ _ w3 (HK2.out.on hb4) hK3 rfl rfl
  have hb5 := below_more hb3 hb4
  clear hb3 hb4 hr3 hK3
  go_wp2_with fail
  refine hS.mono ?_
  intro e w4 hh
  clear hS
  obtain ⟨rfl, hb6⟩ := hh.is_yes trivial
  have HE : Hid (IsTrue w (.returned (.bool true)) w4) := ⟨rfl, below_more hb5 hb6⟩
  clear hh hb5 hb6
  go_wp2
  go_ret
  exact HE.out

/-- What Rotate answers, in one form: the row and the error. -/
def Kq.errOf : Except Int (List Kq.K) → Int
  | .ok _ => 0
  | .error n => n
def Kq.rowOf : Except Int (List Kq.K) → List Kq.K
  | .ok m => m
  | .error _ => []
theorem RotEnd.shows {ok : Nat → Prop} {res : Except Int (List Kq.K)} {w w' : World} {e : Ending} (h : RotEnd ok res w e w') : Below w.heap.size w w' ∧ ∃ A c, e = .returned (.tuple #[.slice A (Kq.rowOf res).length c, .int .i64 (Kq.errOf res)]) ∧ KsIs w' ok (.slice A (Kq.rowOf res).length c) (Kq.rowOf res) := by
  obtain ⟨hb, h⟩ := h
  refine ⟨hb, ?_⟩
  cases res with
  | ok m =>
    obtain ⟨A, c, rfl, hK⟩ := h
    exact ⟨A, c, rfl, hK⟩
  | error n =>
    obtain ⟨rfl, _⟩ := h
    exact ⟨none, 0, rfl, KsIs.nil _ _⟩

set_option maxHeartbeats 1000000 in
set_option maxRecDepth 100000 in
theorem lawRotates_any {ok ok' : Nat → Prop} (l : List Kq.K) (A : Option Addr) (c n : Nat) (x : Kq.K) (v : Value) (life : Int) (w : World) (hL : KsIs w ok (.slice A n c) l) (hn : l.length = n) (h : IsK w ok' v x) (hi : I64 life) :
    Calls Try.prog 4 #[.slice A n c, v, .int .i64 life] w (IsTrue w) := by
  obtain ⟨B, d, rfl, hh⟩ := h
  have hx : IsK w ok' (kv x.id (.slice B x.secret.length d) x.made x.ends) x := ⟨B, d, rfl, hh⟩
  obtain ⟨W1, eW1⟩ : ∃ W1, W1 = w.alloc (.cells #[.string x.id, .slice B x.secret.length d, .int .i64 x.made, .int .i64 x.ends] 27) := ⟨_, rfl⟩
  have hb1 : Below w.heap.size w W1 := by rw [eW1]; exact below_new _ _
  have hl1 : Lies W1 w.heap.size 27 [.string x.id, .slice B x.secret.length d, .int .i64 x.made, .int .i64 x.ends] := by rw [eW1]; exact Lies.new_ rfl
  have hR := rotate_any l A c n x _ life W1 (hL.on hb1) hn (hx.on hb1) hi
  have HQ : Hid (∀ W, Below W1.heap.size W1 W → Calls Try.prog 15 #[.slice A n c, kv x.id (.slice B x.secret.length d) x.made x.ends, .int .i64 life] W (RotEnd (fun _ => True) (Kq.rotate l x life) W)) := fun W hW =>
    refRotate_any l A c n x _ life W ((hL.on hb1).on hW) hn ((hx.on hb1).on hW) hi
  have HB1 := Lib.hid hb1
  have HL1 := Lib.hid hl1
  obtain ⟨RES, eR⟩ : ∃ RES, Kq.rotate l x life = RES := ⟨_, rfl⟩
  rw [eR] at hR HQ
  have HSH : Hid (∀ (ok : Nat → Prop) (W W' : World) (e : Ending), RotEnd ok RES W e W' → Below W.heap.size W W' ∧ ∃ A c, e = .returned (.tuple #[.slice A (Kq.rowOf RES).length c, .int .i64 (Kq.errOf RES)]) ∧ KsIs W' ok (.slice A (Kq.rowOf RES).length c) (Kq.rowOf RES)) := fun ok W W' e h => h.shows
  obtain ⟨M, eM⟩ : ∃ M, Kq.rowOf RES = M := ⟨_, rfl⟩
  obtain ⟨E, eE⟩ : ∃ E : Int, Kq.errOf RES = E := ⟨_, rfl⟩
  rw [eM, eE] at HSH
  rw [eW1] at hR
  have HW1 := Lib.hid eW1
  clear hb1 hl1 hL hn hh hx eR eM eE eW1
  go_enter Try.func4, Try.ntmps4
  go_wp2_with fail
  refine hR.mono ?_
  intro e w2 hh
  rw [← HW1.out] at hh
  clear hR
  obtain ⟨hb2, A2, c2, rfl, hK2⟩ := HSH.out _ _ _ _ hh
  have hQ := HQ.out w2 hb2
  obtain ⟨⟨y0, y1, y2, y3⟩, _⟩ := (HL1.out.below hb2 HL1.out.lt).four
  have HB2 := Lib.hid (below_more HB1.out hb2)
  have HK2 := Lib.hid hK2
  clear hh hb2 hK2
  go_wp2_with fail
  refine hQ.mono ?_
  intro e w3 hh
  clear hQ y0 y1 y2 y3
  obtain ⟨hb3, A3, c3, rfl, hK3⟩ := HSH.out _ _ _ _ hh
  have hA := alive9_any w3
  have HB3 := Lib.hid (below_more HB2.out hb3)
  have HK23 := Lib.hid (HK2.out.on hb3)
  have HK3 := Lib.hid hK3
  clear hh hb3 hK3
  go_wp2_with fail
  refine hA.mono ?_
  rintro e w4 ⟨rfl, hb4⟩
  clear hA
  have hS := same9_any _ _ A2 A3 c2 c3 _ _ w4 (HK23.out.on hb4) (HK3.out.on hb4) rfl rfl
  have HB4 := Lib.hid (below_more HB3.out hb4)
  have hEE : (E == E) = true := by simp
  clear hb4
  go_wp2_with fail
  refine hS.mono ?_
  intro e w5 hh
  clear hS
  obtain ⟨rfl, hb6⟩ := hh.is_yes trivial
  have HE : Hid (IsTrue w (.returned (.bool true)) w5) := ⟨rfl, below_more HB4.out hb6⟩
  clear hh hb6
  go_wp2
  go_ret
  exact HE.out
end Go.Proofs.Ythklgpflaghojaa
