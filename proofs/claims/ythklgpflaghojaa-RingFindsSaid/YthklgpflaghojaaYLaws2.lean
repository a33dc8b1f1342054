/-
  The laws RingSigns, RingFinds, RingNewest.
-/
import Derived.Test.YthklgpflaghojaaYLaws
namespace Go.Proofs.Ythklgpflaghojaa
open Go.RowKit

/-- The bytes of a key whose cells are known. -/
theorem IsK.arg {w : World} {ok : Nat → Prop} {id : ByteArray} {A : Option Addr} {n c : Nat} {m e : Int} {x : Kq.K} (h : IsK w ok (kv id (.slice A n c) m e) x) : ArgIs w A c x.secret ∧ x.secret.length = n ∧ x.secret.length ≤ 140737488355328 ∧ ∀ y ∈ x.secret, y < 256 := by
  obtain ⟨A', c', e, hS, hl, _⟩ := h
  injection e with e
  injection e with e
  simp only [List.cons.injEq, Value.slice.injEq, and_true] at e
  obtain ⟨_, ⟨rfl, rfl, rfl⟩, _⟩ := e
  exact ⟨slIs_argIs hS hl.2, rfl, hl⟩
def Kq.keyOf : Option Kq.K → Kq.K
  | some x => x
  | none => ⟨ByteArray.empty, [], 0, 0⟩
/-- What Find and Signing answer, in one form: the key, and whether there is one. -/
theorem FoundEnd.shows {ok : Nat → Prop} {res : Option Kq.K} {w w' : World} {e : Ending} (h : FoundEnd ok res w e w') : Below w.heap.size w w' ∧ ∃ A c, e = .returned (.tuple #[kv (Kq.keyOf res).id (.slice A (Kq.keyOf res).secret.length c) (Kq.keyOf res).made (Kq.keyOf res).ends, .bool res.isSome]) ∧ IsK w' ok (kv (Kq.keyOf res).id (.slice A (Kq.keyOf res).secret.length c) (Kq.keyOf res).made (Kq.keyOf res).ends) (Kq.keyOf res) := by
  obtain ⟨hb, h⟩ := h
  refine ⟨hb, ?_⟩
  cases res with
  | some m =>
    obtain ⟨A, c, rfl, hK⟩ := h
    exact ⟨A, c, rfl, hK⟩
  | none =>
    subst h
    exact ⟨none, 0, rfl, isK_zero _ _⟩

set_option maxHeartbeats 1000000 in
set_option maxRecDepth 100000 in
theorem lawSigns_any {ok : Nat → Prop} (l : List Kq.K) (A : Option Addr) (c n : Nat) (now : Int) (w : World) (hL : KsIs w ok (.slice A n c) l) (hn : l.length = n) :
    Calls Try.prog 6 #[.slice A n c, .int .i64 now] w (IsTrue w) := by
  have hP := signing_any l A c n now w hL hn
  have HL := Lib.hid hL
  have HN := Lib.hid hn
  have HQ : Hid (∀ W, KsIs W ok (.slice A n c) l → Calls Try.prog 20 #[.slice A n c, .int .i64 now] W (FoundEnd (· < W.heap.size) (Kq.signing l now) W)) := fun W hW => refSigning_any l A c n now W hW.low hn (fun _ h => h)
  obtain ⟨RES, eR⟩ : ∃ RES, Kq.signing l now = RES := ⟨_, rfl⟩
  rw [eR] at hP HQ
  have HSH : Hid (∀ (ok : Nat → Prop) (W W' : World) (e : Ending), FoundEnd ok RES W e W' → Below W.heap.size W W' ∧ ∃ A c, e = .returned (.tuple #[kv (Kq.keyOf RES).id (.slice A (Kq.keyOf RES).secret.length c) (Kq.keyOf RES).made (Kq.keyOf RES).ends, .bool RES.isSome]) ∧ IsK W' ok (kv (Kq.keyOf RES).id (.slice A (Kq.keyOf RES).secret.length c) (Kq.keyOf RES).made (Kq.keyOf RES).ends) (Kq.keyOf RES)) := fun ok W W' e h => h.shows
  obtain ⟨y, ey⟩ : ∃ y, Kq.keyOf RES = y := ⟨_, rfl⟩
  obtain ⟨b, eb⟩ : ∃ b, RES.isSome = b := ⟨_, rfl⟩
  rw [ey, eb] at HSH
  clear hL hn eR ey eb
  go_enter Try.func6, Try.ntmps6
  go_wp2_with fail
  refine hP.mono ?_
  intro e w1 hh
  clear hP
  obtain ⟨hb1, A1, c1, rfl, hK1⟩ := HSH.out _ _ _ _ hh
  obtain ⟨W1, eW1⟩ : ∃ W1, W1 = w1.alloc (.cells #[.string y.id, .slice A1 y.secret.length c1, .int .i64 y.made, .int .i64 y.ends] 27) := ⟨_, rfl⟩
  have hbW1 : Below w1.heap.size w1 W1 := by rw [eW1]; exact below_new _ _
  have hl1 : Lies W1 w1.heap.size 27 [.string y.id, .slice A1 y.secret.length c1, .int .i64 y.made, .int .i64 y.ends] := by rw [eW1]; exact Lies.new_ rfl
  have hb2 := below_more hb1 hbW1
  have hQ := HQ.out W1 (HL.out.on hb2)
  have HK1 := Lib.hid (hK1.on hbW1)
  have HL1 := Lib.hid hl1
  have HB2 := Lib.hid hb2
  rw [eW1] at hQ
  have HW1 := Lib.hid eW1
  clear hh hb1 hK1 hbW1 hl1 hb2 eW1
  go_wp2_with fail
  refine hQ.mono ?_
  intro e w2 hh
  clear hQ
  rw [← HW1.out] at hh
  obtain ⟨hb3, A2, c2, rfl, hK2⟩ := HSH.out _ _ _ _ hh
  obtain ⟨W2, eW2⟩ : ∃ W2, W2 = w2.alloc (.cells #[.string y.id, .slice A2 y.secret.length c2, .int .i64 y.made, .int .i64 y.ends] 27) := ⟨_, rfl⟩
  have hbW2 : Below w2.heap.size w2 W2 := by rw [eW2]; exact below_new _ _
  have hl2 : Lies W2 w2.heap.size 27 [.string y.id, .slice A2 y.secret.length c2, .int .i64 y.made, .int .i64 y.ends] := by rw [eW2]; exact Lies.new_ rfl
  have hA := alive9_any W2
  have HB3 := Lib.hid (below_more (below_more HB2.out hb3) hbW2)
  have HK12 := Lib.hid ((HK1.out.on hb3).on hbW2)
  have HK22 := Lib.hid (hK2.on hbW2)
  have HL12 := Lib.hid ((HL1.out.below hb3 HL1.out.lt).below hbW2 (HL1.out.below hb3 HL1.out.lt).lt)
  have HL22 := Lib.hid hl2
  rw [eW2] at hA
  have HW2 := Lib.hid eW2
  clear hh hb3 hK2 hbW2 hl2 eW2
  go_wp2_with fail
  refine hA.mono ?_
  rintro e w3 ⟨rfl, hb4⟩
  rw [← HW2.out] at hb4
  clear hA
  have hS := sameKey_any y y _ _ w3 (HK12.out.on hb4) (HK22.out.on hb4)
  obtain ⟨⟨y0, y1, y2, y3⟩, _⟩ := (HL12.out.below hb4 HL12.out.lt).four
  obtain ⟨⟨z0, z1, z2, z3⟩, _⟩ := (HL22.out.below hb4 HL22.out.lt).four
  have HB4 := Lib.hid (below_more HB3.out hb4)
  have hbb : (b == b) = true := by simp
  clear hb4
  go_wp2_with fail
  refine hS.mono ?_
  intro e w4 hh
  clear hS
  obtain ⟨rfl, hb5⟩ := hh.is_yes trivial
  have HE : Hid (IsTrue w (.returned (.bool true)) w4) := ⟨rfl, below_more HB4.out hb5⟩
  clear hh hb5 y0 y1 y2 y3 z0 z1 z2 z3
  go_wp2
  go_ret
  exact HE.out

set_option maxHeartbeats 1000000 in
set_option maxRecDepth 100000 in
theorem lawFinds_any {ok : Nat → Prop} (l : List Kq.K) (A : Option Addr) (c n : Nat) (id : ByteArray) (now : Int) (w : World) (hL : KsIs w ok (.slice A n c) l) (hn : l.length = n) :
    Calls Try.prog 7 #[.slice A n c, .string id, .int .i64 now] w (IsTrue w) := by
  have hP := find_any l A c n id now w hL hn
  have HL := Lib.hid hL
  have HN := Lib.hid hn
  have HQ : Hid (∀ W, KsIs W ok (.slice A n c) l → Calls Try.prog 23 #[.slice A n c, .string id, .int .i64 now] W (FoundEnd (· < W.heap.size) (Kq.find l id now) W)) := fun W hW => refFind_any l A c n id now W hW.low hn (fun _ h => h)
  obtain ⟨RES, eR⟩ : ∃ RES, Kq.find l id now = RES := ⟨_, rfl⟩
  rw [eR] at hP HQ
  have HSH : Hid (∀ (ok : Nat → Prop) (W W' : World) (e : Ending), FoundEnd ok RES W e W' → Below W.heap.size W W' ∧ ∃ A c, e = .returned (.tuple #[kv (Kq.keyOf RES).id (.slice A (Kq.keyOf RES).secret.length c) (Kq.keyOf RES).made (Kq.keyOf RES).ends, .bool RES.isSome]) ∧ IsK W' ok (kv (Kq.keyOf RES).id (.slice A (Kq.keyOf RES).secret.length c) (Kq.keyOf RES).made (Kq.keyOf RES).ends) (Kq.keyOf RES)) := fun ok W W' e h => h.shows
  obtain ⟨y, ey⟩ : ∃ y, Kq.keyOf RES = y := ⟨_, rfl⟩
  obtain ⟨b, eb⟩ : ∃ b, RES.isSome = b := ⟨_, rfl⟩
  rw [ey, eb] at HSH
  clear hL hn eR ey eb
  go_enter Try.func7, Try.ntmps7
  go_wp2_with fail
  refine hP.mono ?_
  intro e w1 hh
  clear hP
  obtain ⟨hb1, A1, c1, rfl, hK1⟩ := HSH.out _ _ _ _ hh
  obtain ⟨W1, eW1⟩ : ∃ W1, W1 = w1.alloc (.cells #[.string y.id, .slice A1 y.secret.length c1, .int .i64 y.made, .int .i64 y.ends] 27) := ⟨_, rfl⟩
  have hbW1 : Below w1.heap.size w1 W1 := by rw [eW1]; exact below_new _ _
  have hl1 : Lies W1 w1.heap.size 27 [.string y.id, .slice A1 y.secret.length c1, .int .i64 y.made, .int .i64 y.ends] := by rw [eW1]; exact Lies.new_ rfl
  have hb2 := below_more hb1 hbW1
  have hQ := HQ.out W1 (HL.out.on hb2)
  have HK1 := Lib.hid (hK1.on hbW1)
  have HL1 := Lib.hid hl1
  have HB2 := Lib.hid hb2
  rw [eW1] at hQ
  have HW1 := Lib.hid eW1
  clear hh hb1 hK1 hbW1 hl1 hb2 eW1
  go_wp2_with fail
  refine hQ.mono ?_
  intro e w2 hh
  clear hQ
  rw [← HW1.out] at hh
  obtain ⟨hb3, A2, c2, rfl, hK2⟩ := HSH.out _ _ _ _ hh
  obtain ⟨W2, eW2⟩ : ∃ W2, W2 = w2.alloc (.cells #[.string y.id, .slice A2 y.secret.length c2, .int .i64 y.made, .int .i64 y.ends] 27) := ⟨_, rfl⟩
  have hbW2 : Below w2.heap.size w2 W2 := by rw [eW2]; exact below_new _ _
  have hl2 : Lies W2 w2.heap.size 27 [.string y.id, .slice A2 y.secret.length c2, .int .i64 y.made, .int .i64 y.ends] := by rw [eW2]; exact Lies.new_ rfl
  have hA := alive9_any W2
  have HB3 := Lib.hid (below_more (below_more HB2.out hb3) hbW2)
  have HK12 := Lib.hid ((HK1.out.on hb3).on hbW2)
  have HK22 := Lib.hid (hK2.on hbW2)
  have HL12 := Lib.hid ((HL1.out.below hb3 HL1.out.lt).below hbW2 (HL1.out.below hb3 HL1.out.lt).lt)
  have HL22 := Lib.hid hl2
  rw [eW2] at hA
  have HW2 := Lib.hid eW2
  clear hh hb3 hK2 hbW2 hl2 eW2
  go_wp2_with fail
  refine hA.mono ?_
  rintro e w3 ⟨rfl, hb4⟩
  rw [← HW2.out] at hb4
  clear hA
  have hS := sameKey_any y y _ _ w3 (HK12.out.on hb4) (HK22.out.on hb4)
  obtain ⟨⟨y0, y1, y2, y3⟩, _⟩ := (HL12.out.below hb4 HL12.out.lt).four
  obtain ⟨⟨z0, z1, z2, z3⟩, _⟩ := (HL22.out.below hb4 HL22.out.lt).four
  have HB4 := Lib.hid (below_more HB3.out hb4)
  have hbb : (b == b) = true := by simp
  clear hb4
  go_wp2_with fail
  refine hS.mono ?_
  intro e w4 hh
  clear hS
  obtain ⟨rfl, hb5⟩ := hh.is_yes trivial
  have HE : Hid (IsTrue w (.returned (.bool true)) w4) := ⟨rfl, below_more HB4.out hb5⟩
  clear hh hb5 y0 y1 y2 y3 z0 z1 z2 z3
  go_wp2
  go_ret
  exact HE.out

set_option maxHeartbeats 1000000 in
set_option maxRecDepth 100000 in
theorem lawNewest_any {ok ok' : Nat → Prop} (l : List Kq.K) (A : Option Addr) (c n : Nat) (x : Kq.K) (v : Value) (life : Int) (w : World) (hL : KsIs w ok (.slice A n c) l) (hn : l.length = n) (h : IsK w ok' v x) (hi : I64 life) :
    Calls Try.prog 10 #[.slice A n c, v, .int .i64 life] w (IsTrue w) := by
  obtain ⟨B, d, rfl, hh⟩ := h
  have hx : IsK w ok' (kv x.id (.slice B x.secret.length d) x.made x.ends) x := ⟨B, d, rfl, hh⟩
  have hsl := hh.2.1
  obtain ⟨W1, eW1⟩ : ∃ W1, W1 = w.alloc (.cells #[.string x.id, .slice B x.secret.length d, .int .i64 x.made, .int .i64 x.ends] 27) := ⟨_, rfl⟩
  have hb1 : Below w.heap.size w W1 := by rw [eW1]; exact below_new _ _
  have hl1 : Lies W1 w.heap.size 27 [.string x.id, .slice B x.secret.length d, .int .i64 x.made, .int .i64 x.ends] := by rw [eW1]; exact Lies.new_ rfl
  have hR := rotate_any l A c n x _ life W1 (hL.on hb1) hn (hx.on hb1) hi
  have hAr : ArgIs W1 B d x.secret := (slIs_argIs hh.1 hsl.2).below hb1 (Nat.le_refl _)
  have HAR := Lib.hid hAr
  have HSL := Lib.hid hsl
  have HB1 := Lib.hid hb1
  have HL1 := Lib.hid hl1
  have HC := Lib.hid (Kq.rotate_cases l x life)
  have HSG : Hid (∀ m, Kq.rotate l x life = .ok m → Kq.signing m x.made = some (Kq.newest x life)) := fun m h => Kq.rotate_signs h
  obtain ⟨RES, eR⟩ : ∃ RES, Kq.rotate l x life = RES := ⟨_, rfl⟩
  rw [eR] at hR HC HSG
  rw [eW1] at hR
  have HW1 := Lib.hid eW1
  clear hb1 hl1 hL hn hh hx eR eW1 hsl hAr
  go_enter Try.func10, Try.ntmps10
  go_wp2_with fail
  refine hR.mono ?_
  intro e w2 hh
  rw [← HW1.out] at hh
  clear hR
  cases RES with
  | error N =>
    obtain ⟨hb2, rfl, hN⟩ := hh
    have hne : (N != 0) = true := by rw [bne_iff_ne]; omega
    have hA := alive9_any w2
    have HB2 := Lib.hid (below_more HB1.out hb2)
    clear hb2 hN
    go_wp2_with fail
    refine hA.mono ?_
    rintro e w3 ⟨rfl, hb3⟩
    have HE : Hid (IsTrue w (.returned (.bool true)) w3) := ⟨rfl, below_more HB2.out hb3⟩
    clear hA hb3 hne
    go_wp2
    go_ret
    exact HE.out
  | ok m =>
    obtain ⟨hb2, A2, c2, rfl, hK2⟩ := hh
    have hS := signing_any m A2 c2 _ x.made w2 hK2 rfl
    rw [HSG.out m rfl] at hS
    obtain ⟨⟨_, _, y2, _⟩, _⟩ := (HL1.out.below hb2 HL1.out.lt).four
    have HB2 := Lib.hid (below_more HB1.out hb2)
    have HL2 := Lib.hid (HL1.out.below hb2 HL1.out.lt)
    have HAR2 := Lib.hid (HAR.out.below hb2 (Nat.le_refl _))
    clear hb2 hK2
    go_wp2_with fail
    refine hS.mono ?_
    intro e w3 hh
    clear hS y2
    obtain ⟨hb3, A3, c3, rfl, hK3⟩ := hh
    have hA3 : ArgIs w3 A3 c3 x.secret := hK3.arg.1
    have e1 : (Kq.newest x life).id = x.id := rfl
    have e2 : (Kq.newest x life).secret = x.secret := rfl
    have e3 : (Kq.newest x life).made = x.made := rfl
    obtain ⟨E9, e4⟩ : ∃ E9, (Kq.newest x life).ends = E9 := ⟨_, rfl⟩
    rw [e1, e2, e3, e4]
    obtain ⟨W4, eW4⟩ : ∃ W4, W4 = w3.alloc (.cells #[.string x.id, .slice A3 x.secret.length c3, .int .i64 x.made, .int .i64 E9] 27) := ⟨_, rfl⟩
    have hb4 : Below w3.heap.size w3 W4 := by rw [eW4]; exact below_new _ _
    have hl4 : Lies W4 w3.heap.size 27 [.string x.id, .slice A3 x.secret.length c3, .int .i64 x.made, .int .i64 E9] := by rw [eW4]; exact Lies.new_ rfl
    have hA := alive9_any W4
    have HB4 := Lib.hid (below_more (below_more HB2.out hb3) hb4)
    have HL4 := Lib.hid hl4
    have HLB := Lib.hid ((HL2.out.below hb3 HL2.out.lt).below hb4 (HL2.out.below hb3 HL2.out.lt).lt)
    have HA3 := Lib.hid (hA3.below hb4 (Nat.le_refl _))
    have HAB := Lib.hid ((HAR2.out.below hb3 (Nat.le_refl _)).below hb4 (Nat.le_refl _))
    rw [eW4] at hA
    have HW4 := Lib.hid eW4
    clear hb3 hK3 hA3 hb4 hl4 eW4 e1 e2 e3 e4
    go_wp2_with fail
    refine hA.mono ?_
    rintro e w5 ⟨rfl, hb5⟩
    rw [← HW4.out] at hb5
    clear hA
    obtain ⟨⟨y0, y1, y2, y3⟩, _⟩ := (HL4.out.below hb5 HL4.out.lt).four
    obtain ⟨⟨z0, z1, z2, z3⟩, _⟩ := (HLB.out.below hb5 HLB.out.lt).four
    have k1 := conv_str (HA3.out.below hb5 (Nat.le_refl _))
    have k2 := conv_str (HAB.out.below hb5 (Nat.le_refl _))
    obtain ⟨X, eX⟩ : ∃ X, strOf x.secret = X := ⟨_, rfl⟩
    rw [eX] at k1 k2
    have hid : (x.id.toList == x.id.toList) = true := by simp
    have hXX : (X.toList == X.toList) = true := by simp
    have HE : Hid (IsTrue w (.returned (.bool true)) w5) := ⟨rfl, below_more HB4.out hb5⟩
    clear hb5 eX
    go_wp2
    go_ret
    exact HE.out
end Go.Proofs.Ythklgpflaghojaa
