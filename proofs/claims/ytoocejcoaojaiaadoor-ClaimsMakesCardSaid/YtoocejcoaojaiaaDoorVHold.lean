/-
  The law ClaimsHold.
-/
import Derived.Test.YtoocejcoaojaiaaDoorVLaws
import Derived.Test.YtoocejcoaojaiaaDoorVSmall
namespace Go.Proofs.YtoocejcoaojaiaaDoor
open Go.RowKit Go.Sort

abbrev wishcells (sub : List Nat) (life : Int) (x : Jq.J) (nv lv : Value) : List Value := [.string (strOf sub), .int .i64 life, .int .i64 x.kind, .bool x.bool, .int .i64 x.int, .string (strOf x.text), nv, lv]
abbrev wishv (sub : List Nat) (life : Int) (x : Jq.J) (nv lv : Value) : Value := .agg #[.string (strOf sub), .int .i64 life, .int .i64 x.kind, .bool x.bool, .int .i64 x.int, .string (strOf x.text), nv, lv]
theorem make_some {q : Vq.Want} {sub : List Nat} {life : Int} {x y : Jq.J} (h : Vq.makeP q sub life x = some y) : sub ≠ [] ∧ y = Vq.objOf (Vq.rows q sub life x) := by
  unfold Vq.makeP at h
  split at h
  · cases h
  · rename_i hn
    exact ⟨fun e => hn (.inl e), (Option.some.inj h).symm⟩
theorem Lies.eightC {w : World} {g : Nat} {t : TypeId} {a b c d e f h i : Value} (hl : Lies w g t [a, b, c, d, e, f, h, i]) : w.cell? ⟨g, 0, none⟩ = some a ∧ w.cell? ⟨g, 1, none⟩ = some b ∧ w.cell? ⟨g, 2, none⟩ = some c ∧ w.cell? ⟨g, 3, none⟩ = some d ∧ w.cell? ⟨g, 4, none⟩ = some e ∧ w.cell? ⟨g, 5, none⟩ = some f ∧ w.cell? ⟨g, 6, none⟩ = some h ∧ w.cell? ⟨g, 7, none⟩ = some i :=
  ⟨hl.cell 0, hl.cell 1, hl.cell 2, hl.cell 3, hl.cell 4, hl.cell 5, hl.cell 6, hl.cell 7⟩
theorem Lies.fiveC {w : World} {g : Nat} {t : TypeId} {a b c d e : Value} (hl : Lies w g t [a, b, c, d, e]) : w.cell? ⟨g, 0, none⟩ = some a ∧ w.cell? ⟨g, 1, none⟩ = some b ∧ w.cell? ⟨g, 2, none⟩ = some c ∧ w.cell? ⟨g, 3, none⟩ = some d ∧ w.cell? ⟨g, 4, none⟩ = some e :=
  ⟨hl.cell 0, hl.cell 1, hl.cell 2, hl.cell 3, hl.cell 4⟩

set_option maxHeartbeats 1000000 in
set_option maxRecDepth 100000 in
theorem lawHold_any {ok : Nat → Prop} {q : Vq.Want} {sub : List Nat} {life n : Int} {nv lv : Value} (x : Jq.J) (w : World) (hH : Held w) (hq : WantOk q) (hs : TextOk sub) (hJ : IsJ w ok (jv x.kind x.bool x.int (strOf x.text) nv lv) x) (hn : -9223372036854775808 ≤ n ∧ n ≤ 9223372036854775807) :
    Calls Tryd.prog 6 #[wantv q, wishv sub life x nv lv, .int .i64 n] w (IsTrue w) := by
  obtain ⟨A1, c1, A2, c2, ef⟩ := hJ.form
  obtain ⟨rfl, rfl⟩ : nv = .slice A1 x.names.length c1 ∧ lv = .slice A2 x.list.length c2 := by simpa [jv] using ef
  clear ef
  obtain ⟨W0, eW0⟩ : ∃ W0, W0 = (w.alloc (.cells #[.string (strOf q.issuer), .string (strOf q.aud), .string (strOf q.nonce), .int .i64 q.now, .int .i64 q.slack] 30)).alloc (.cells #[.string (strOf sub), .int .i64 life, .int .i64 x.kind, .bool x.bool, .int .i64 x.int, .string (strOf x.text), .slice A1 x.names.length c1, .slice A2 x.list.length c2] 35) := ⟨_, rfl⟩
  have hb0 : Below w.heap.size w W0 := by rw [eW0]; exact (one_alloc _ _).alloc (by simp) _
  have hw0 : Lies W0 w.heap.size 30 (wcells q) := by rw [eW0]; exact (Lies.new_ rfl).alloc _
  have hl0 : Lies W0 (w.heap.size + 1) 35 (wishcells sub life x (.slice A1 x.names.length c1) (.slice A2 x.list.length c2)) := by rw [eW0]; exact Lies.new_ (by simp)
  have hS := small10_any x _ W0 (hJ.on hb0)
  have HQ := Lib.hid hq
  have HSUB := Lib.hid hs
  have HN := Lib.hid hn
  have HJ := Lib.hid hJ
  have HH := Lib.hid hH
  have HB0 := Lib.hid hb0
  have HWT0 := Lib.hid hw0
  have HL0 := Lib.hid hl0
  obtain ⟨_, _, z0, z1, z2, z3, z4, z5⟩ := hl0.eightC
  rw [eW0] at hS z0 z1 z2 z3 z4 z5
  have HW0 := Lib.hid eW0
  clear hq hs hn hJ hH hb0 hw0 hl0 eW0
  go_enter Tryd.func6, Tryd.ntmps6
  go_wp2_with fail
  refine hS.mono ?_
  rintro e w1 ⟨⟨r, rfl, hr⟩, hb⟩
  clear hS z0 z1 z2 z3 z4 z5
  rw [← HW0.out] at hb
  have HB1 := Lib.hid (below_more HB0.out hb)
  have HWT1 := Lib.hid (HWT0.out.below hb HWT0.out.lt)
  have HL1 := Lib.hid (HL0.out.below hb HL0.out.lt)
  clear hb
  cases r with
  | false =>
    have hA := alive10_any w1 (HH.out.below HB1.out)
    clear hr
    go_wp2_with fail
    refine hA.mono ?_
    rintro e w2 ⟨rfl, hb⟩
    have HE : Hid (IsTrue w (.returned (.bool true)) w2) := ⟨rfl, below_more HB1.out hb⟩
    clear hA hb
    go_wp2
    go_ret
    exact HE.out
  | true =>
  have HSM := Lib.hid (hr rfl).1
  clear hr
  have hM := make_any (q := q) (sub := sub) (life := life) x _ w1 (HH.out.below HB1.out) HQ.out HSUB.out (HJ.out.on HB1.out) HSM.out
  have HMS : Hid (∀ y, Vq.makeP q sub life x = some y → sub ≠ [] ∧ y = Vq.objOf (Vq.rows q sub life x)) := fun y h => make_some h
  obtain ⟨RES, eR⟩ : ∃ r, Vq.makeP q sub life x = r := ⟨_, rfl⟩
  rw [eR] at hM HMS
  obtain ⟨y0, y1, z0, z1, z2, z3, z4, z5⟩ := HL1.out.eightC
  obtain ⟨v0, v1, v2, v3, v4⟩ := HWT1.out.fiveC
  clear eR
  go_wp2_with fail
  refine hM.mono ?_
  intro e w2 hh
  clear hM y0 y1 z0 z1 z2 z3 z4 z5 v0 v1 v2 v3 v4
  obtain ⟨hb, hh⟩ := hh
  cases RES with
  | none =>
    subst hh
    obtain ⟨W2, eW2⟩ : ∃ W2, W2 = w2.alloc (.cells #[.int .i64 0, .bool false, .int .i64 0, .string ByteArray.empty, .slice none 0 0, .slice none 0 0] 28) := ⟨_, rfl⟩
    have hb2 : Below w2.heap.size w2 W2 := by rw [eW2]; exact one_alloc _ _
    have HB2 := Lib.hid (below_more (below_more HB1.out hb) hb2)
    have hA := alive10_any W2 (HH.out.below HB2.out)
    have HW2 := Lib.hid eW2
    clear hb hb2 eW2
    go_upto_region 4 with (fail)
    rw [← HW2.out]
    go_wp2_with fail
    refine hA.mono ?_
    rintro e w3 ⟨rfl, hb⟩
    have HE : Hid (IsTrue w (.returned (.bool true)) w3) := ⟨rfl, below_more HB2.out hb⟩
    clear hA hb
    go_wp2
    go_ret
    exact HE.out
  | some y =>
    obtain ⟨u, rfl, hJy⟩ := hh
    obtain ⟨hsub, rfl⟩ := HMS.out y rfl
    obtain ⟨B1, d1, B2, d2, rfl⟩ := hJy.form
    have hck := Vq.check_made q sub life x hsub n
    obtain ⟨y, ey⟩ : ∃ y, Vq.objOf (Vq.rows q sub life x) = y := ⟨_, rfl⟩
    rw [ey] at hJy hck ⊢
    obtain ⟨W2, eW2⟩ : ∃ W2, W2 = w2.alloc (.cells #[.int .i64 y.kind, .bool y.bool, .int .i64 y.int, .string (strOf y.text), .slice B1 y.names.length d1, .slice B2 y.list.length d2] 28) := ⟨_, rfl⟩
    have hb2 : Below w2.heap.size w2 W2 := by rw [eW2]; exact one_alloc _ _
    have HB2 := Lib.hid (below_more (below_more HB1.out hb) hb2)
    have HWT2 := Lib.hid ((HWT1.out.below hb HWT1.out.lt).below hb2 (HWT1.out.below hb HWT1.out.lt).lt)
    have HL2 := Lib.hid ((HL1.out.below hb HL1.out.lt).below hb2 (HL1.out.below hb HL1.out.lt).lt)
    have HY2 : Hid (Lies W2 w2.heap.size 28 [.int .i64 y.kind, .bool y.bool, .int .i64 y.int, .string (strOf y.text), .slice B1 y.names.length d1, .slice B2 y.list.length d2]) := by unfold Hid; rw [eW2]; exact Lies.new_ rfl
    have HJ2 := Lib.hid (hJy.on hb2)
    have HCK := Lib.hid hck
    have HW2 := Lib.hid eW2
    have HLT2 : Hid (w2.heap.size < W2.heap.size) := by unfold Hid; rw [eW2]; simp
    clear hb hb2 eW2 hJy hck hsub ey
    go_upto_region 4 with (fail)
    rw [← HW2.out]
    have v3 : W2.cell? ⟨w.heap.size, 3, none⟩ = some (.int .i64 q.now) := HWT2.out.cell 3
    by_cases hle : q.now ≤ n
    rotate_left
    · have d2 : decide (n < q.now) = true := decide_eq_true (by omega)
      have hA := alive10_any W2 (HH.out.below HB2.out)
      clear hle
      go_wp2_with fail
      refine hA.mono ?_
      rintro e w3 ⟨rfl, hb⟩
      have HE : Hid (IsTrue w (.returned (.bool true)) w3) := ⟨rfl, below_more HB2.out hb⟩
      clear hA hb
      go_wp2
      go_ret
      exact HE.out
    have d2' : decide (n < q.now) = false := decide_eq_false (by omega)
    have HCK2 := Lib.hid (HCK.out hle)
    clear hle HCK
    go_upto_region 6 with (fail)
    clear v3 d2'
    obtain ⟨v0, v1, v2, v3, v4⟩ := HWT2.out.fiveC
    obtain ⟨W3, eW3⟩ : ∃ W3, W3 = (W2.alloc (.cells #[.string (strOf q.issuer), .string (strOf q.aud), .string (strOf q.nonce), .int .i64 q.now, .int .i64 q.slack] 30)) := ⟨_, rfl⟩
    have hb3 : Below W2.heap.size W2 W3 := by rw [eW3]; exact one_alloc _ _
    have hl3 : Lies W3 W2.heap.size 30 (wcells q) := by rw [eW3]; exact Lies.new_ rfl
    have HW3 := Lib.hid eW3
    clear eW3
    go_upto_region 7 with (fail)
    rw [← HW3.out]
    clear v0 v1 v2 v3 v4
    have v3 : W3.cell? ⟨W2.heap.size, 3, none⟩ = some (.int .i64 q.now) := hl3.cell 3
    have f3 := hl3.free 3
    obtain ⟨W4, eW4⟩ : ∃ W4, W4 = W3.setCell ⟨W2.heap.size, 3, none⟩ (.int .i64 n) := ⟨_, rfl⟩
    have hb4 : Below W2.heap.size W2 W4 := by rw [eW4]; exact hb3.setCell (Nat.le_refl _) _
    have hl4 : Lies W4 W2.heap.size 30 [.string (strOf q.issuer), .string (strOf q.aud), .string (strOf q.nonce), .int .i64 n, .int .i64 q.slack] := by rw [eW4]; have := hl3.put 3 (.int .i64 n); simpa using this
    have HB4 := Lib.hid (below_more HB2.out hb4)
    have HWT4 := Lib.hid (HWT2.out.below hb4 HWT2.out.lt)
    have HL4 := Lib.hid (HL2.out.below hb4 HL2.out.lt)
    have HY4 := Lib.hid (HY2.out.below hb4 HLT2.out)
    have HT4 := Lib.hid hl4
    have hC := check_any (q := { q with now := n }) y _ W4 ⟨HQ.out.1, HQ.out.2.1, HQ.out.2.2.1, HN.out, HQ.out.2.2.2.2⟩ (HJ2.out.on hb4)
    rw [HCK2.out] at hC
    have HW4 := Lib.hid eW4
    clear hb3 hl3 hb4 hl4 eW4
    go_upto_region 8 with (fail)
    rw [← HW4.out]
    clear v3 f3
    obtain ⟨⟨z0, z1, z2, z3, z4, z5⟩, _⟩ := HY4.out.six
    obtain ⟨v0, v1, v2, v3, v4⟩ := HT4.out.fiveC
    go_wp2_with fail
    refine hC.mono ?_
    rintro e W5 ⟨rfl, hb⟩
    clear hC z0 z1 z2 z3 z4 z5 v0 v1 v2 v3 v4
    have HB5 := Lib.hid (below_more HB4.out hb)
    have HWT5 := Lib.hid (HWT4.out.below hb HWT4.out.lt)
    have HL5 := Lib.hid (HL4.out.below hb HL4.out.lt)
    clear hb
    go_upto_region 9 with (fail)
    obtain ⟨_, y1, _⟩ := HL5.out.eightC
    obtain ⟨_, _, _, v3, v4⟩ := HWT5.out.fiveC
    have k1 := cell_regrown y1
    have j3 := cell_regrown v3
    have j4 := cell_regrown v4
    have cA : ∀ a b d os, Calls Tryd.prog 12 #[.int .i64 a, .int .i64 b] (grow (redrawn W5 d) os) fun e w2 => e = .returned (.int .i64 (Vq.add a b)) ∧ ∃ r : Regrown, w2 = grow (redrawn W5 r.d) r.os := fun a b d os => Calls.regrown_of ((refAdd_any a b _).mono fun e w' h => by obtain ⟨rfl, he⟩ := h; exact ⟨he, Below.refl _ _⟩)
    clear y1 v3 v4
    refine wp_region_quiet_below (by kernel_rfl) (by kernel_rfl) ?_
    repeat (go_big_quiet_step (with_reducible exact cA _ _ _ _))
    refine wpQuiet_nil ?_
    intro w' hw'
    obtain ⟨⟨dq, osq⟩, hw''⟩ := hw'
    subst hw''
    have hfin := below_regrown W5 dq osq
    generalize hWq : grow (redrawn W5 dq) osq = W6 at hfin ⊢
    have HB6 := Lib.hid (below_more HB5.out hfin)
    have hA := alive10_any W6 (HH.out.below HB6.out)
    clear k1 j3 j4 cA hWq hfin HCK2
    by_cases ho : Vq.add (Vq.add q.now life) q.slack ≤ Vq.add n 0
    · rw [if_pos ho, decide_eq_true ho]
      clear ho
      go_wp2_with fail
      refine hA.mono ?_
      rintro e w7 ⟨rfl, hb⟩
      have HE : Hid (IsTrue w (.returned (.bool true)) w7) := ⟨rfl, below_more HB6.out hb⟩
      clear hA hb
      go_wp2
      go_ret
      exact HE.out
    · rw [if_neg ho, decide_eq_false ho]
      clear ho
      go_wp2_with fail
      refine hA.mono ?_
      rintro e w7 ⟨rfl, hb⟩
      have HE : Hid (IsTrue w (.returned (.bool true)) w7) := ⟨rfl, below_more HB6.out hb⟩
      clear hA hb
      go_wp2
      go_ret
      exact HE.out
end Go.Proofs.YtoocejcoaojaiaaDoor
