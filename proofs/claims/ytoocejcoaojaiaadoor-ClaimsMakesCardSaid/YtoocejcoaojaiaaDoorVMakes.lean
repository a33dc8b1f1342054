/-
  The law ClaimsMakes.
-/
import Derived.Test.YtoocejcoaojaiaaDoorVMakeR
import Derived.Test.YtoocejcoaojaiaaDoorVAlive
import Derived.Test.YtoocejcoaojaiaaDoorVHold
import Derived.Test.YtoocejcoaojaiaaDoorQS
namespace Go.Proofs.YtoocejcoaojaiaaDoor
open Go.RowKit Go.Sort

abbrev zeroJ : Jq.J := .mk 0 false 0 [] [] []
/-- A value that a claim's making hands back, as it lies. -/
def Given (y : Jq.J) (r : Bool) (e : Ending) (w' : World) : Prop := ∃ A1 c1 A2 c2, e = .returned (.tuple #[jv y.kind y.bool y.int (strOf y.text) (.slice A1 y.names.length c1) (.slice A2 y.list.length c2), .bool r]) ∧ IsJ w' (fun _ => True) (jv y.kind y.bool y.int (strOf y.text) (.slice A1 y.names.length c1) (.slice A2 y.list.length c2)) y
theorem given_of {ok : Nat → Prop} {u : Value} {y : Jq.J} {r : Bool} {w' : World} (h : IsJ w' ok u y) : Given y r (.returned (.tuple #[u, .bool r])) w' := by
  have h' := h.keep (ok' := fun _ => True) (fun _ _ _ => ⟨trivial, rfl⟩) (Nat.le_refl _)
  obtain ⟨A1, c1, A2, c2, rfl⟩ := h.form
  exact ⟨A1, c1, A2, c2, rfl, h'⟩
theorem zero_given (w' : World) (r : Bool) : Given zeroJ r (.returned (.tuple #[jv 0 false 0 ByteArray.empty nilS nilS, .bool r])) w' :=
  given_of (ok := fun _ => True) (isJ_plain (t := []) w' _ (by omega) (by omega) ⟨Nat.zero_le _, fun _ h => nomatch h⟩)
theorem GetEnd.given {res : Option Jq.J} {w w' : World} {e : Ending} (h : GetEnd res w e w') : Below w.heap.size w w' ∧ Given (res.getD zeroJ) res.isSome e w' := by
  refine ⟨h.1, ?_⟩
  have h2 := h.2
  cases res with
  | none => simp only at h2; rw [h2]; exact zero_given w' false
  | some y => obtain ⟨u, rfl, hJ⟩ := h2; exact given_of hJ
theorem RGetEnd.given {ok : Nat → Prop} {res : Option Jq.J} {w w' : World} {e : Ending} (h : RGetEnd ok res w e w') : Below w.heap.size w w' ∧ Given (res.getD zeroJ) res.isSome e w' := by
  refine ⟨h.1, ?_⟩
  have h2 := h.2
  cases res with
  | none => simp only at h2; rw [h2]; exact zero_given w' false
  | some y => obtain ⟨u, rfl, hJ⟩ := h2; exact given_of hJ

set_option maxHeartbeats 1000000 in
set_option maxRecDepth 100000 in
theorem lawMakes10_any {ok : Nat → Prop} {q : Vq.Want} {sub : List Nat} {life : Int} {nv lv : Value} (x : Jq.J) (w : World) (hH : Held w) (hq : WantOk q) (hs : TextOk sub) (hJ : IsJ w ok (jv x.kind x.bool x.int (strOf x.text) nv lv) x) :
    Calls Tryd.prog 5 #[wantv q, wishv sub life x nv lv] w (IsTrue w) := by
  obtain ⟨A1, c1, A2, c2, ef⟩ := hJ.form
  obtain ⟨rfl, rfl⟩ : nv = .slice A1 x.names.length c1 ∧ lv = .slice A2 x.list.length c2 := by simpa [jv] using ef
  clear ef
  obtain ⟨W0, eW0⟩ : ∃ W0, W0 = (w.alloc (.cells #[.string (strOf q.issuer), .string (strOf q.aud), .string (strOf q.nonce), .int .i64 q.now, .int .i64 q.slack] 30)).alloc (.cells #[.string (strOf sub), .int .i64 life, .int .i64 x.kind, .bool x.bool, .int .i64 x.int, .string (strOf x.text), .slice A1 x.names.length c1, .slice A2 x.list.length c2] 35) := ⟨_, rfl⟩
  have hb0 : Below w.heap.size w W0 := by rw [eW0]; exact (one_alloc _ _).alloc (by simp) _
  have hw0 : Lies W0 w.heap.size 30 (wcells q) := by rw [eW0]; exact (Lies.new_ rfl).alloc _
  have hl0 : Lies W0 (w.heap.size + 1) 35 (wishcells sub life x (.slice A1 x.names.length c1) (.slice A2 x.list.length c2)) := by rw [eW0]; exact Lies.new_ (by simp)
  have hS := small10_any x _ W0 (hJ.on hb0)
  have HQ := Lib.hid hq
  have HSUB := Lib.hid hs
  have HJ := Lib.hid hJ
  have HH := Lib.hid hH
  have HB0 := Lib.hid hb0
  have HWT0 := Lib.hid hw0
  have HL0 := Lib.hid hl0
  obtain ⟨_, _, z0, z1, z2, z3, z4, z5⟩ := hl0.eightC
  rw [eW0] at hS z0 z1 z2 z3 z4 z5
  have HW0 := Lib.hid eW0
  clear hq hs hJ hH hb0 hw0 hl0 eW0
  go_enter Tryd.func5, Tryd.ntmps5
  go_wp2_with fail
  refine hS.mono ?_
  rintro e w1 ⟨⟨r, rfl, hr⟩, hb⟩
  clear hS z0 z1 z2 z3 z4 z5
  rw [← HW0.out] at hb
  have HB1 := Lib.hid (below_more HB0.out hb)
  have HWT1 := Lib.hid (HWT0.out.below hb HWT0.out.lt)
  have HL1 := Lib.hid (HL0.out.below hb HL0.out.lt)
  clear hb
  cases r with
  | false =>
    have hA := alive10_any w1 (HH.out.below HB1.out)
    clear hr
    go_wp2_with fail
    refine hA.mono ?_
    rintro e w2 ⟨rfl, hb⟩
    have HE : Hid (IsTrue w (.returned (.bool true)) w2) := ⟨rfl, below_more HB1.out hb⟩
    clear hA hb
    go_wp2
    go_ret
    exact HE.out
  | true =>
  have HSM := Lib.hid (hr rfl).1
  clear hr
  have hM := make_any (q := q) (sub := sub) (life := life) x _ w1 (HH.out.below HB1.out) HQ.out HSUB.out (HJ.out.on HB1.out) HSM.out
  have HRM : Hid (∀ W, Below w.heap.size w W → Calls Tryd.prog 17 #[wantv q, .string (strOf sub), .int .i64 life, jv x.kind x.bool x.int (strOf x.text) (.slice A1 x.names.length c1) (.slice A2 x.list.length c2)] W (RGetEnd (fun _ => True) (Vq.makeP q sub life x) W)) := fun W hb => refMake_any x _ W HQ.out HSUB.out (HJ.out.on hb) HSM.out
  obtain ⟨RES, eR⟩ : ∃ r, Vq.makeP q sub life x = r := ⟨_, rfl⟩
  rw [eR] at hM HRM
  obtain ⟨y, ey⟩ : ∃ y, RES.getD zeroJ = y := ⟨_, rfl⟩
  obtain ⟨b, eb⟩ : ∃ b, RES.isSome = b := ⟨_, rfl⟩
  have HG : Hid (∀ w e w', GetEnd RES w e w' → Below w.heap.size w w' ∧ Given y b e w') := fun w e w' h => by rw [← ey, ← eb]; exact h.given
  have HRG : Hid (∀ w e w', RGetEnd (fun _ => True) RES w e w' → Below w.heap.size w w' ∧ Given y b e w') := fun w e w' h => by rw [← ey, ← eb]; exact h.given
  clear eR ey eb
  obtain ⟨y0, y1, z0, z1, z2, z3, z4, z5⟩ := HL1.out.eightC
  obtain ⟨v0, v1, v2, v3, v4⟩ := HWT1.out.fiveC
  go_wp2_with fail
  refine hM.mono ?_
  intro e w2 hh
  clear hM y0 y1 z0 z1 z2 z3 z4 z5 v0 v1 v2 v3 v4
  obtain ⟨hb, B1, d1, B2, d2, rfl, hJ1⟩ := HG.out _ _ _ hh
  clear hh
  obtain ⟨W2, eW2⟩ : ∃ W2, W2 = w2.alloc (.cells #[.int .i64 y.kind, .bool y.bool, .int .i64 y.int, .string (strOf y.text), .slice B1 y.names.length d1, .slice B2 y.list.length d2] 28) := ⟨_, rfl⟩
  have hb2 : Below w2.heap.size w2 W2 := by rw [eW2]; exact one_alloc _ _
  have HB2 := Lib.hid (below_more (below_more HB1.out hb) hb2)
  have HWT2 := Lib.hid ((HWT1.out.below hb HWT1.out.lt).below hb2 (HWT1.out.below hb HWT1.out.lt).lt)
  have HL2 := Lib.hid ((HL1.out.below hb HL1.out.lt).below hb2 (HL1.out.below hb HL1.out.lt).lt)
  have HY2 : Hid (Lies W2 w2.heap.size 28 [.int .i64 y.kind, .bool y.bool, .int .i64 y.int, .string (strOf y.text), .slice B1 y.names.length d1, .slice B2 y.list.length d2]) := by unfold Hid; rw [eW2]; exact Lies.new_ rfl
  have HJ2 := Lib.hid (hJ1.on hb2)
  have HW2 := Lib.hid eW2
  clear hb hb2 eW2 hJ1
  go_upto_region 4 with (fail)
  rw [← HW2.out]
  have hM := HRM.out W2 HB2.out
  obtain ⟨y0, y1, z0, z1, z2, z3, z4, z5⟩ := HL2.out.eightC
  obtain ⟨v0, v1, v2, v3, v4⟩ := HWT2.out.fiveC
  go_wp2_with fail
  refine hM.mono ?_
  intro e w3 hh
  clear hM y0 y1 z0 z1 z2 z3 z4 z5 v0 v1 v2 v3 v4
  obtain ⟨hb, C1, f1, C2, f2, rfl, hJ3⟩ := HRG.out _ _ _ hh
  clear hh
  obtain ⟨W3, eW3⟩ : ∃ W3, W3 = w3.alloc (.cells #[.int .i64 y.kind, .bool y.bool, .int .i64 y.int, .string (strOf y.text), .slice C1 y.names.length f1, .slice C2 y.list.length f2] 28) := ⟨_, rfl⟩
  have hb3 : Below w3.heap.size w3 W3 := by rw [eW3]; exact one_alloc _ _
  have HB3 := Lib.hid (below_more (below_more HB2.out hb) hb3)
  have HY3 := Lib.hid ((HY2.out.below hb HY2.out.lt).below hb3 (HY2.out.below hb HY2.out.lt).lt)
  have HZ3 : Hid (Lies W3 w3.heap.size 28 [.int .i64 y.kind, .bool y.bool, .int .i64 y.int, .string (strOf y.text), .slice C1 y.names.length f1, .slice C2 y.list.length f2]) := by unfold Hid; rw [eW3]; exact Lies.new_ rfl
  have HJ3 := Lib.hid ((HJ2.out.on hb).on hb3)
  have HK3 := Lib.hid (hJ3.on hb3)
  have HW3 := Lib.hid eW3
  clear hb hb3 eW3 hJ3
  go_upto_region 5 with (fail)
  rw [← HW3.out]
  have hA := alive10_any W3 (HH.out.below HB3.out)
  go_wp2_with fail
  refine hA.mono ?_
  rintro e w4 ⟨rfl, hb⟩
  clear hA
  have HB4 := Lib.hid (below_more HB3.out hb)
  have hc := refSame_any y y _ _ w4 (HJ3.out.on hb) (HK3.out.on hb)
  obtain ⟨⟨z0, z1, z2, z3, z4, z5⟩, _⟩ := (HY3.out.below hb HY3.out.lt).six
  obtain ⟨⟨t0, t1, t2, t3, t4, t5⟩, _⟩ := (HZ3.out.below hb HZ3.out.lt).six
  have hbb : (b == b) = true := by cases b <;> rfl
  clear hb
  go_wp2_with fail
  refine hc.mono ?_
  intro e w5 hh
  obtain ⟨r, rfl, hr, hb⟩ := hh.as
  obtain rfl : r = true := hr.2 trivial
  have HE : Hid (IsTrue w (.returned (.bool true)) w5) := ⟨rfl, below_more HB4.out hb⟩
  clear hc hh hr hb z0 z1 z2 z3 z4 z5 t0 t1 t2 t3 t4 t5
  go_wp2
  go_ret
  exact HE.out
end Go.Proofs.YtoocejcoaojaiaaDoor
