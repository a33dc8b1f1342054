/-
  own: the claims that each token has.
-/
import Derived.Test.YtoocejcoaojaiaaDoorVOwnSt
namespace Go.Proofs.YtoocejcoaojaiaaDoor
open Go.RowKit Go.Sort

/-- How own ends. -/
def OwnEnd (B : Nat) (rs : List (List Nat × Jq.J)) (w : World) (e : Ending) (w' : World) : Prop :=
  ∃ nv lv, e = .returned (jv 5 false 0 ByteArray.empty nv lv) ∧ ObjRow B (rs.map (·.1)) (rs.map (·.2)) nv lv w' ∧ Below w.heap.size w w'
theorem OwnSt.ends {B : Nat} {q : Vq.Want} {rs : List (List Nat × Jq.J)} {nv lv : Value} {w W : World} (h : OwnSt B w.heap.size q rs nv lv w W) (hB : B ≤ w.heap.size) :
    OwnEnd B rs w (.returned (jv 5 false 0 ByteArray.empty nv lv)) (put6 W (w.heap.size + 1) (.int .i64 5) (.bool false) (.int .i64 0) (.string ByteArray.empty) nv lv) :=
  ⟨nv, lv, rfl, h.row.off gb_put6 (by omega) (h.off _ (by omega)).1 (h.off _ (by omega)).2, h.below.trans (gb_down gb_put6 (by have := h.want.lt; omega) (by omega))⟩

set_option maxHeartbeats 4000000 in
set_option maxRecDepth 100000 in
theorem own_any {B : Nat} {q : Vq.Want} {sub : List Nat} {life : Int} (w : World) (hB : B ≤ w.heap.size) (hq : WantOk q) (hs : TextOk sub) :
    Calls Tryd.prog 30 #[wantv q, .string (strOf sub), .int .i64 life] w (OwnEnd B (Vq.baseRows q sub life) w) := by
  have HQ := Lib.hid hq
  have HSUB := Lib.hid hs
  have HBB := Lib.hid hB
  obtain ⟨W0, eW0⟩ : ∃ W0, W0 = ((w.alloc (.cells #[.string (strOf q.issuer), .string (strOf q.aud), .string (strOf q.nonce), .int .i64 q.now, .int .i64 q.slack] 30)).alloc (.cells #[.int .i64 0, .bool false, .int .i64 0, .string { data := #[] }, .slice none 0 0, .slice none 0 0] 28)).alloc (.cells #[.int .i64 5, .bool false, .int .i64 0, .string { data := #[] }, .slice none 0 0, .slice none 0 0] 28) := ⟨_, rfl⟩
  have hst : OwnSt B w.heap.size q [] (.slice none 0 0) (.slice none 0 0) w W0 := by
    refine ⟨?_, ?_, ?_, ?_, ?_, fun k _ => ⟨(fun e => by cases e), (fun e => by cases e)⟩⟩
    · rw [eW0]; exact ((one_alloc _ _).alloc (by simp) _).alloc (by simp; omega) _
    · rw [eW0]; exact ((Lies.new_ rfl).alloc _).alloc _
    · rw [eW0]; exact (Lies.new_ (by simp)).alloc _
    · rw [eW0]; exact Lies.new_ (by simp)
    · exact ObjRow.nil (by rw [eW0]; simp; omega)
  have HRS : Hid (Vq.baseRows q sub life = [(Vq.issN, Jq.textJ q.issuer), (Vq.subN, Jq.textJ sub), (Vq.audN, Jq.textJ q.aud), (Vq.expN, Jq.intJ (Vq.add q.now life)), (Vq.iatN, Jq.intJ (Vq.add q.now 0))] ++ (if q.nonce = [] then [] else [(Vq.nonceN, Jq.textJ q.nonce)])) := rfl
  generalize Vq.baseRows q sub life = RS at *
  have HW0 := Lib.hid eW0
  have HS0 := Lib.hid hst
  clear hq hs hB eW0 hst
  go_enter Tryd.func30, Tryd.ntmps30
  go_upto_region 2 with (fail)
  rw [← HW0.out]
  have hst := HS0.out
  obtain ⟨⟨z0, z1, z2, z3, z4, z5⟩, _⟩ := hst.var.six
  have k0 := cell_regrown z0
  have k1 := cell_regrown z1
  have k2 := cell_regrown z2
  have k3 := cell_regrown z3
  have k4 := cell_regrown z4
  have k5 := cell_regrown z5
  have kw := cell_regrown ((hst.want.cell 0).trans rfl)
  have cT : ∀ d os, Calls Tryd.prog 41 #[.string (strOf q.issuer)] (grow (redrawn W0 d) os) fun e w2 => e = .returned (jv 3 false 0 (strOf q.issuer) nilS nilS) ∧ ∃ r : Regrown, w2 = grow (redrawn W0 r.d) r.os := fun d os => Calls.regrown_of (textMade_any _ _)
  clear z0 z1 z2 z3 z4 z5 hst
  refine wp_region_quiet_tail 4 (by kernel_rfl) (by kernel_rfl) (by kernel_rfl) (by kernel_rfl) (by kernel_rfl) ?_
  simp only [List.take_succ_cons, List.take_zero, List.drop_succ_cons, List.drop_zero]
  repeat (go_big_quiet_step (first | with_reducible exact cT _ _))
  refine wpQuiet_nil ?_
  intro w' hw'
  obtain ⟨⟨dq, osq⟩, hw''⟩ := hw'
  subst hw''
  have hfin := below_regrown W0 dq osq
  generalize hWq : grow (redrawn W0 dq) osq = Wa0 at hfin ⊢
  clear k0 k1 k2 k3 k4 k5 kw cT hWq
  have HSa0 := Lib.hid (HS0.out.more hfin)
  have hC := with_any Wa0 HSa0.out.row (isJ_text Wa0 (· < B) HQ.out.1) (t := Vq.issN) (by decide) (by simp)
  clear hfin
  go_wp2_with fail
  refine hC.mono ?_
  rintro e Wb0 ⟨nv', lv', rfl, hO', hT'⟩
  clear hC
  obtain ⟨A2, c2, e'⟩ : ∃ A c, nv' = .slice A 1 c := own_slice hO'.names
  subst e'
  obtain ⟨A3, c3, rfl⟩ : ∃ A c, lv' = .slice A 1 c := by obtain ⟨_, _, h, _⟩ := hO'.rows; exact own_slice h
  obtain ⟨hl', hs'⟩ := HSa0.out.next (r := (Vq.issN, Jq.textJ q.issuer)) HBB.out hO' hT'
  obtain ⟨⟨x0, x1, x2, x3, x4, x5⟩, g0, g1, g2, g3, g4, g5⟩ := hl'.six
  obtain ⟨W1, eW⟩ : ∃ W, W = put6 Wb0 (w.heap.size + 1 + 1) (.int .i64 5) (.bool false) (.int .i64 0) (.string ByteArray.empty) (.slice A2 1 c2) (.slice A3 1 c3) := ⟨_, rfl⟩
  rw [show put6 Wb0 (w.heap.size + 2) (.int .i64 5) (.bool false) (.int .i64 0) (.string ByteArray.empty) (.slice A2 1 c2) (.slice A3 1 c3) = W1 from eW.symm] at hs'
  have HS1 := Lib.hid hs'
  have HW1 := Lib.hid eW
  clear hl' hs' eW hO' hT'
  go_upto_region 3 with (fail)
  have hx := HW1.out
  unfold put6 at hx
  rw [← hx]
  clear x0 x1 x2 x3 x4 x5 g0 g1 g2 g3 g4 g5 hx
  have hst := HS1.out
  obtain ⟨⟨z0, z1, z2, z3, z4, z5⟩, _⟩ := hst.var.six
  have k0 := cell_regrown z0
  have k1 := cell_regrown z1
  have k2 := cell_regrown z2
  have k3 := cell_regrown z3
  have k4 := cell_regrown z4
  have k5 := cell_regrown z5
  have cT : ∀ d os, Calls Tryd.prog 41 #[.string (strOf sub)] (grow (redrawn W1 d) os) fun e w2 => e = .returned (jv 3 false 0 (strOf sub) nilS nilS) ∧ ∃ r : Regrown, w2 = grow (redrawn W1 r.d) r.os := fun d os => Calls.regrown_of (textMade_any _ _)
  clear z0 z1 z2 z3 z4 z5 hst
  refine wp_region_quiet_tail 3 (by kernel_rfl) (by kernel_rfl) (by kernel_rfl) (by kernel_rfl) (by kernel_rfl) ?_
  simp only [List.take_succ_cons, List.take_zero, List.drop_succ_cons, List.drop_zero]
  repeat (go_big_quiet_step (first | with_reducible exact cT _ _))
  refine wpQuiet_nil ?_
  intro w' hw'
  obtain ⟨⟨dq, osq⟩, hw''⟩ := hw'
  subst hw''
  have hfin := below_regrown W1 dq osq
  generalize hWq : grow (redrawn W1 dq) osq = Wa1 at hfin ⊢
  clear k0 k1 k2 k3 k4 k5 cT hWq
  have HSa1 := Lib.hid (HS1.out.more hfin)
  have hC := with_any Wa1 HSa1.out.row (isJ_text Wa1 (· < B) HSUB.out) (t := Vq.subN) (by decide) (by simp)
  clear hfin
  go_wp2_with fail
  refine hC.mono ?_
  rintro e Wb1 ⟨nv', lv', rfl, hO', hT'⟩
  clear hC
  obtain ⟨A4, c4, e'⟩ : ∃ A c, nv' = .slice A 2 c := own_slice hO'.names
  subst e'
  obtain ⟨A5, c5, rfl⟩ : ∃ A c, lv' = .slice A 2 c := by obtain ⟨_, _, h, _⟩ := hO'.rows; exact own_slice h
  obtain ⟨hl', hs'⟩ := HSa1.out.next (r := (Vq.subN, Jq.textJ sub)) HBB.out hO' hT'
  obtain ⟨⟨x0, x1, x2, x3, x4, x5⟩, g0, g1, g2, g3, g4, g5⟩ := hl'.six
  obtain ⟨W2, eW⟩ : ∃ W, W = put6 Wb1 (w.heap.size + 1 + 1) (.int .i64 5) (.bool false) (.int .i64 0) (.string ByteArray.empty) (.slice A4 2 c4) (.slice A5 2 c5) := ⟨_, rfl⟩
  rw [show put6 Wb1 (w.heap.size + 2) (.int .i64 5) (.bool false) (.int .i64 0) (.string ByteArray.empty) (.slice A4 2 c4) (.slice A5 2 c5) = W2 from eW.symm] at hs'
  have HS2 := Lib.hid hs'
  have HW2 := Lib.hid eW
  clear hl' hs' eW hO' hT'
  go_upto_region 4 with (fail)
  have hx := HW2.out
  unfold put6 at hx
  rw [← hx]
  clear x0 x1 x2 x3 x4 x5 g0 g1 g2 g3 g4 g5 hx
  have hst := HS2.out
  obtain ⟨⟨z0, z1, z2, z3, z4, z5⟩, _⟩ := hst.var.six
  have k0 := cell_regrown z0
  have k1 := cell_regrown z1
  have k2 := cell_regrown z2
  have k3 := cell_regrown z3
  have k4 := cell_regrown z4
  have k5 := cell_regrown z5
  have kw := cell_regrown ((hst.want.cell 1).trans rfl)
  have cT : ∀ d os, Calls Tryd.prog 41 #[.string (strOf q.aud)] (grow (redrawn W2 d) os) fun e w2 => e = .returned (jv 3 false 0 (strOf q.aud) nilS nilS) ∧ ∃ r : Regrown, w2 = grow (redrawn W2 r.d) r.os := fun d os => Calls.regrown_of (textMade_any _ _)
  clear z0 z1 z2 z3 z4 z5 hst
  refine wp_region_quiet_tail 4 (by kernel_rfl) (by kernel_rfl) (by kernel_rfl) (by kernel_rfl) (by kernel_rfl) ?_
  simp only [List.take_succ_cons, List.take_zero, List.drop_succ_cons, List.drop_zero]
  repeat (go_big_quiet_step (first | with_reducible exact cT _ _))
  refine wpQuiet_nil ?_
  intro w' hw'
  obtain ⟨⟨dq, osq⟩, hw''⟩ := hw'
  subst hw''
  have hfin := below_regrown W2 dq osq
  generalize hWq : grow (redrawn W2 dq) osq = Wa2 at hfin ⊢
  clear k0 k1 k2 k3 k4 k5 kw cT hWq
  have HSa2 := Lib.hid (HS2.out.more hfin)
  have hC := with_any Wa2 HSa2.out.row (isJ_text Wa2 (· < B) HQ.out.2.1) (t := Vq.audN) (by decide) (by simp)
  clear hfin
  go_wp2_with fail
  refine hC.mono ?_
  rintro e Wb2 ⟨nv', lv', rfl, hO', hT'⟩
  clear hC
  obtain ⟨A6, c6, e'⟩ : ∃ A c, nv' = .slice A 3 c := own_slice hO'.names
  subst e'
  obtain ⟨A7, c7, rfl⟩ : ∃ A c, lv' = .slice A 3 c := by obtain ⟨_, _, h, _⟩ := hO'.rows; exact own_slice h
  obtain ⟨hl', hs'⟩ := HSa2.out.next (r := (Vq.audN, Jq.textJ q.aud)) HBB.out hO' hT'
  obtain ⟨⟨x0, x1, x2, x3, x4, x5⟩, g0, g1, g2, g3, g4, g5⟩ := hl'.six
  obtain ⟨W3, eW⟩ : ∃ W, W = put6 Wb2 (w.heap.size + 1 + 1) (.int .i64 5) (.bool false) (.int .i64 0) (.string ByteArray.empty) (.slice A6 3 c6) (.slice A7 3 c7) := ⟨_, rfl⟩
  rw [show put6 Wb2 (w.heap.size + 2) (.int .i64 5) (.bool false) (.int .i64 0) (.string ByteArray.empty) (.slice A6 3 c6) (.slice A7 3 c7) = W3 from eW.symm] at hs'
  have HS3 := Lib.hid hs'
  have HW3 := Lib.hid eW
  clear hl' hs' eW hO' hT'
  go_upto_region 5 with (fail)
  have hx := HW3.out
  unfold put6 at hx
  rw [← hx]
  clear x0 x1 x2 x3 x4 x5 g0 g1 g2 g3 g4 g5 hx
  have hst := HS3.out
  obtain ⟨⟨z0, z1, z2, z3, z4, z5⟩, _⟩ := hst.var.six
  have k0 := cell_regrown z0
  have k1 := cell_regrown z1
  have k2 := cell_regrown z2
  have k3 := cell_regrown z3
  have k4 := cell_regrown z4
  have k5 := cell_regrown z5
  have kw := cell_regrown ((hst.want.cell 3).trans rfl)
  have cA : ∀ d os, Calls Tryd.prog 11 #[.int .i64 q.now, .int .i64 life] (grow (redrawn W3 d) os) fun e w2 => e = .returned (.int .i64 (Vq.add q.now life)) ∧ ∃ r : Regrown, w2 = grow (redrawn W3 r.d) r.os := fun d os => Calls.regrown_of ((cadd_any q.now life _).mono fun e w' h => by obtain ⟨rfl, he⟩ := h; exact ⟨he, Below.refl _ _⟩)
  have cT : ∀ d os, Calls Tryd.prog 42 #[.int .i64 (Vq.add q.now life)] (grow (redrawn W3 d) os) fun e w2 => e = .returned (jv 2 false (Vq.add q.now life) ByteArray.empty nilS nilS) ∧ ∃ r : Regrown, w2 = grow (redrawn W3 r.d) r.os := fun d os => Calls.regrown_of (intMade_any _ _)
  clear z0 z1 z2 z3 z4 z5 hst
  refine wp_region_quiet_tail 6 (by kernel_rfl) (by kernel_rfl) (by kernel_rfl) (by kernel_rfl) (by kernel_rfl) ?_
  simp only [List.take_succ_cons, List.take_zero, List.drop_succ_cons, List.drop_zero]
  repeat (go_big_quiet_step (first | with_reducible exact cA _ _ | with_reducible exact cT _ _))
  refine wpQuiet_nil ?_
  intro w' hw'
  obtain ⟨⟨dq, osq⟩, hw''⟩ := hw'
  subst hw''
  have hfin := below_regrown W3 dq osq
  generalize hWq : grow (redrawn W3 dq) osq = Wa3 at hfin ⊢
  clear k0 k1 k2 k3 k4 k5 kw cT cA hWq
  have HSa3 := Lib.hid (HS3.out.more hfin)
  have hC := with_any Wa3 HSa3.out.row (isJ_num Wa3 (· < B) (add_ge q.now life)) (t := Vq.expN) (by decide) (by simp)
  clear hfin
  go_wp2_with fail
  refine hC.mono ?_
  rintro e Wb3 ⟨nv', lv', rfl, hO', hT'⟩
  clear hC
  obtain ⟨A8, c8, e'⟩ : ∃ A c, nv' = .slice A 4 c := own_slice hO'.names
  subst e'
  obtain ⟨A9, c9, rfl⟩ : ∃ A c, lv' = .slice A 4 c := by obtain ⟨_, _, h, _⟩ := hO'.rows; exact own_slice h
  obtain ⟨hl', hs'⟩ := HSa3.out.next (r := (Vq.expN, Jq.intJ (Vq.add q.now life))) HBB.out hO' hT'
  obtain ⟨⟨x0, x1, x2, x3, x4, x5⟩, g0, g1, g2, g3, g4, g5⟩ := hl'.six
  obtain ⟨W4, eW⟩ : ∃ W, W = put6 Wb3 (w.heap.size + 1 + 1) (.int .i64 5) (.bool false) (.int .i64 0) (.string ByteArray.empty) (.slice A8 4 c8) (.slice A9 4 c9) := ⟨_, rfl⟩
  rw [show put6 Wb3 (w.heap.size + 2) (.int .i64 5) (.bool false) (.int .i64 0) (.string ByteArray.empty) (.slice A8 4 c8) (.slice A9 4 c9) = W4 from eW.symm] at hs'
  have HS4 := Lib.hid hs'
  have HW4 := Lib.hid eW
  clear hl' hs' eW hO' hT'
  go_upto_region 6 with (fail)
  have hx := HW4.out
  unfold put6 at hx
  rw [← hx]
  clear x0 x1 x2 x3 x4 x5 g0 g1 g2 g3 g4 g5 hx
  have hst := HS4.out
  obtain ⟨⟨z0, z1, z2, z3, z4, z5⟩, _⟩ := hst.var.six
  have k0 := cell_regrown z0
  have k1 := cell_regrown z1
  have k2 := cell_regrown z2
  have k3 := cell_regrown z3
  have k4 := cell_regrown z4
  have k5 := cell_regrown z5
  have kw := cell_regrown ((hst.want.cell 3).trans rfl)
  have cA : ∀ d os, Calls Tryd.prog 11 #[.int .i64 q.now, .int .i64 0] (grow (redrawn W4 d) os) fun e w2 => e = .returned (.int .i64 (Vq.add q.now 0)) ∧ ∃ r : Regrown, w2 = grow (redrawn W4 r.d) r.os := fun d os => Calls.regrown_of ((cadd_any q.now 0 _).mono fun e w' h => by obtain ⟨rfl, he⟩ := h; exact ⟨he, Below.refl _ _⟩)
  have cT : ∀ d os, Calls Tryd.prog 42 #[.int .i64 (Vq.add q.now 0)] (grow (redrawn W4 d) os) fun e w2 => e = .returned (jv 2 false (Vq.add q.now 0) ByteArray.empty nilS nilS) ∧ ∃ r : Regrown, w2 = grow (redrawn W4 r.d) r.os := fun d os => Calls.regrown_of (intMade_any _ _)
  clear z0 z1 z2 z3 z4 z5 hst
  refine wp_region_quiet_tail 5 (by kernel_rfl) (by kernel_rfl) (by kernel_rfl) (by kernel_rfl) (by kernel_rfl) ?_
  simp only [List.take_succ_cons, List.take_zero, List.drop_succ_cons, List.drop_zero]
  repeat (go_big_quiet_step (first | with_reducible exact cA _ _ | with_reducible exact cT _ _))
  refine wpQuiet_nil ?_
  intro w' hw'
  obtain ⟨⟨dq, osq⟩, hw''⟩ := hw'
  subst hw''
  have hfin := below_regrown W4 dq osq
  generalize hWq : grow (redrawn W4 dq) osq = Wa4 at hfin ⊢
  clear k0 k1 k2 k3 k4 k5 kw cT cA hWq
  have HSa4 := Lib.hid (HS4.out.more hfin)
  have hC := with_any Wa4 HSa4.out.row (isJ_num Wa4 (· < B) (add_ge q.now 0)) (t := Vq.iatN) (by decide) (by simp)
  clear hfin
  go_wp2_with fail
  refine hC.mono ?_
  rintro e Wb4 ⟨nv', lv', rfl, hO', hT'⟩
  clear hC
  obtain ⟨A10, c10, e'⟩ : ∃ A c, nv' = .slice A 5 c := own_slice hO'.names
  subst e'
  obtain ⟨A11, c11, rfl⟩ : ∃ A c, lv' = .slice A 5 c := by obtain ⟨_, _, h, _⟩ := hO'.rows; exact own_slice h
  obtain ⟨hl', hs'⟩ := HSa4.out.next (r := (Vq.iatN, Jq.intJ (Vq.add q.now 0))) HBB.out hO' hT'
  obtain ⟨⟨x0, x1, x2, x3, x4, x5⟩, g0, g1, g2, g3, g4, g5⟩ := hl'.six
  obtain ⟨W5, eW⟩ : ∃ W, W = put6 Wb4 (w.heap.size + 1 + 1) (.int .i64 5) (.bool false) (.int .i64 0) (.string ByteArray.empty) (.slice A10 5 c10) (.slice A11 5 c11) := ⟨_, rfl⟩
  rw [show put6 Wb4 (w.heap.size + 2) (.int .i64 5) (.bool false) (.int .i64 0) (.string ByteArray.empty) (.slice A10 5 c10) (.slice A11 5 c11) = W5 from eW.symm] at hs'
  have HS5 := Lib.hid hs'
  have HW5 := Lib.hid eW
  clear hl' hs' eW hO' hT'
  go_upto_region 7 with (fail)
  have hx := HW5.out
  unfold put6 at hx
  rw [← hx]
  clear x0 x1 x2 x3 x4 x5 g0 g1 g2 g3 g4 g5 hx
  have hwn : W5.cell? ⟨w.heap.size, 2, none⟩ = some (.string (strOf q.nonce)) := HS5.out.want.cell 2
  by_cases hne : q.nonce = []
  · have hE : (strOf q.nonce) = ByteArray.empty := by rw [hne]; rfl
    have hrs : RS = [(Vq.issN, Jq.textJ q.issuer), (Vq.subN, Jq.textJ sub), (Vq.audN, Jq.textJ q.aud), (Vq.expN, Jq.intJ (Vq.add q.now life)), (Vq.iatN, Jq.intJ (Vq.add q.now 0))] := by rw [HRS.out, if_pos hne]; rfl
    rw [hE] at hwn
    have HE : Hid (OwnEnd B RS w (.returned (jv 5 false 0 ByteArray.empty (.slice A10 5 c10) (.slice A11 5 c11))) (put6 W5 (w.heap.size + 1) (.int .i64 5) (.bool false) (.int .i64 0) (.string ByteArray.empty) (.slice A10 5 c10) (.slice A11 5 c11))) := by rw [hrs]; exact HS5.out.ends HBB.out
    obtain ⟨⟨x0, x1, x2, x3, x4, x5⟩, _⟩ := HS5.out.var.six
    obtain ⟨⟨_, _, _, _, _, _⟩, g0, g1, g2, g3, g4, g5⟩ := HS5.out.out.six
    obtain ⟨⟨q0, q1, q2, q3, q4, q5⟩, _⟩ := (HS5.out.out.put6 (a := .int .i64 5) (b := .bool false) (c := .int .i64 0) (d := .string ByteArray.empty) (e := .slice A10 5 c10) (f := .slice A11 5 c11)).six
    clear hne hE hrs
    go_wp2
    exact bodyPost_ret (v := jv 5 false 0 ByteArray.empty (.slice A10 5 c10) (.slice A11 5 c11)) (by simp [results, Tryd.results30, go_sem, q0, q1, q2, q3, q4, q5]) rfl HE.out
  · have hE : (strOf q.nonce).toList.isEmpty = false := by
      rw [ByteArray.toList_eq]
      cases hc : q.nonce with
      | nil => exact absurd hc hne
      | cons a r => rfl
    have hrs : RS = [(Vq.issN, Jq.textJ q.issuer), (Vq.subN, Jq.textJ sub), (Vq.audN, Jq.textJ q.aud), (Vq.expN, Jq.intJ (Vq.add q.now life)), (Vq.iatN, Jq.intJ (Vq.add q.now 0)), (Vq.nonceN, Jq.textJ q.nonce)] := by rw [HRS.out, if_neg hne]; rfl
    have hE2 : (strOf q.nonce).toList ≠ [] := fun h => by rw [h] at hE; cases hE
    clear hne
    go_upto_region 8 with (fail)
    clear hE hE2 hwn
    have hst := HS5.out
    obtain ⟨⟨z0, z1, z2, z3, z4, z5⟩, _⟩ := hst.var.six
    have k0 := cell_regrown z0
    have k1 := cell_regrown z1
    have k2 := cell_regrown z2
    have k3 := cell_regrown z3
    have k4 := cell_regrown z4
    have k5 := cell_regrown z5
    have kw := cell_regrown ((hst.want.cell 2).trans rfl)
    have cT : ∀ d os, Calls Tryd.prog 41 #[.string (strOf q.nonce)] (grow (redrawn W5 d) os) fun e w2 => e = .returned (jv 3 false 0 (strOf q.nonce) nilS nilS) ∧ ∃ r : Regrown, w2 = grow (redrawn W5 r.d) r.os := fun d os => Calls.regrown_of (textMade_any _ _)
    clear z0 z1 z2 z3 z4 z5 hst
    refine wp_region_quiet_tail 4 (by kernel_rfl) (by kernel_rfl) (by kernel_rfl) (by kernel_rfl) (by kernel_rfl) ?_
    simp only [List.take_succ_cons, List.take_zero, List.drop_succ_cons, List.drop_zero]
    repeat (go_big_quiet_step (first | with_reducible exact cT _ _))
    refine wpQuiet_nil ?_
    intro w' hw'
    obtain ⟨⟨dq, osq⟩, hw''⟩ := hw'
    subst hw''
    have hfin := below_regrown W5 dq osq
    generalize hWq : grow (redrawn W5 dq) osq = Wa5 at hfin ⊢
    clear k0 k1 k2 k3 k4 k5 kw cT hWq
    have HSa5 := Lib.hid (HS5.out.more hfin)
    have hC := with_any Wa5 HSa5.out.row (isJ_text Wa5 (· < B) HQ.out.2.2.1) (t := Vq.nonceN) (by decide) (by simp)
    clear hfin
    go_wp2_with fail
    refine hC.mono ?_
    rintro e Wb5 ⟨nv', lv', rfl, hO', hT'⟩
    clear hC
    obtain ⟨A12, c12, e'⟩ : ∃ A c, nv' = .slice A 6 c := own_slice hO'.names
    subst e'
    obtain ⟨A13, c13, rfl⟩ : ∃ A c, lv' = .slice A 6 c := by obtain ⟨_, _, h, _⟩ := hO'.rows; exact own_slice h
    obtain ⟨hl', hs'⟩ := HSa5.out.next (r := (Vq.nonceN, Jq.textJ q.nonce)) HBB.out hO' hT'
    obtain ⟨⟨x0, x1, x2, x3, x4, x5⟩, g0, g1, g2, g3, g4, g5⟩ := hl'.six
    obtain ⟨W6, eW⟩ : ∃ W, W = put6 Wb5 (w.heap.size + 1 + 1) (.int .i64 5) (.bool false) (.int .i64 0) (.string ByteArray.empty) (.slice A12 6 c12) (.slice A13 6 c13) := ⟨_, rfl⟩
    rw [show put6 Wb5 (w.heap.size + 2) (.int .i64 5) (.bool false) (.int .i64 0) (.string ByteArray.empty) (.slice A12 6 c12) (.slice A13 6 c13) = W6 from eW.symm] at hs'
    have HS6 := Lib.hid hs'
    have HW6 := Lib.hid eW
    clear hl' hs' eW hO' hT'
    go_upto_region 9 with (fail)
    have hx := HW6.out
    unfold put6 at hx
    rw [← hx]
    clear x0 x1 x2 x3 x4 x5 g0 g1 g2 g3 g4 g5 hx
    have HE : Hid (OwnEnd B RS w (.returned (jv 5 false 0 ByteArray.empty (.slice A12 6 c12) (.slice A13 6 c13))) (put6 W6 (w.heap.size + 1) (.int .i64 5) (.bool false) (.int .i64 0) (.string ByteArray.empty) (.slice A12 6 c12) (.slice A13 6 c13))) := by rw [hrs]; exact HS6.out.ends HBB.out
    obtain ⟨⟨x0, x1, x2, x3, x4, x5⟩, _⟩ := HS6.out.var.six
    obtain ⟨⟨_, _, _, _, _, _⟩, g0, g1, g2, g3, g4, g5⟩ := HS6.out.out.six
    obtain ⟨⟨q0, q1, q2, q3, q4, q5⟩, _⟩ := (HS6.out.out.put6 (a := .int .i64 5) (b := .bool false) (c := .int .i64 0) (d := .string ByteArray.empty) (e := .slice A12 6 c12) (f := .slice A13 6 c13)).six
    clear hrs
    go_wp2
    exact bodyPost_ret (v := jv 5 false 0 ByteArray.empty (.slice A12 6 c12) (.slice A13 6 c13)) (by simp [results, Tryd.results30, go_sem, q0, q1, q2, q3, q4, q5]) rfl HE.out
end Go.Proofs.YtoocejcoaojaiaaDoor
