/-
  The document's Make.
-/
import Derived.Test.YtoocejcoaojaiaaDoorVMake
import Derived.Test.YtoocejcoaojaiaaDoorVWithR
import Derived.Test.YtoocejcoaojaiaaDoorQX2
import Derived.Deep.DeepCutAuto
namespace Go.Proofs.YtoocejcoaojaiaaDoor
open Go.RowKit Go.Sort

theorem formOk10 : FormOk := fun _ lv h v x w hJ => form_any lv h v x w hJ
/-- Blocks that are older, or made on the way. -/
abbrev okR (g b : Nat) : Prop := b < g ∨ g + 4 ≤ b
/-- What the document's Make has made so far. -/
structure RSt (g : Nat) (q : Vq.Want) (x : Jq.J) (mn ml : Value) (kd : Int) (rs : List (List Nat × Jq.J)) (nv lv : Value) (w W : World) : Prop where
  below : Below g w W
  want : Lies W g 30 (wcells q)
  more : Lies W (g + 1) 28 [.int .i64 x.kind, .bool x.bool, .int .i64 x.int, .string (strOf x.text), mn, ml]
  out : Lies W (g + 2) 28 zero6
  var : Lies W (g + 3) 28 [.int .i64 kd, .bool false, .int .i64 0, .string ByteArray.empty, nv, lv]
  names : SlIs W (okR g) nv (rs.map (·.1)).length (tcells (rs.map (·.1)))
  list : ListIs W (okR g) lv (rs.map (·.2))
  texts : ∀ p ∈ rs.map (·.1), TextOk p
section
variable {g : Nat} {q : Vq.Want} {x : Jq.J} {mn ml : Value} {kd : Int} {rs : List (List Nat × Jq.J)} {nv lv nv' lv' : Value} {w W W' : World}
theorem RSt.on (h : RSt g q x mn ml kd rs nv lv w W) (hb : Below W.heap.size W W') : RSt g q x mn ml kd rs nv lv w W' :=
  ⟨h.below.trans (hb.mono (by have := h.want.lt; omega)), h.want.below hb h.want.lt, h.more.below hb h.more.lt, h.out.below hb h.out.lt, h.var.below hb h.var.lt, h.names.on hb, h.list.on hb, h.texts⟩
theorem RSt.next {r : List Nat × Jq.J} (h : RSt g q x mn ml kd rs nv lv w W) (hS : SlIs W' (fun b => okR g b ∨ W.heap.size ≤ b) nv' (rs.map (·.1) ++ [r.1]).length (tcells (rs.map (·.1) ++ [r.1]))) (hL : ListIs W' (fun b => okR g b ∨ W.heap.size ≤ b) lv' (rs.map (·.2) ++ [r.2])) (hb : Below W.heap.size W W') (ht : TextOk r.1) :
    Lies W' (g + 3) 28 [.int .i64 kd, .bool false, .int .i64 0, .string ByteArray.empty, nv, lv] ∧ RSt g q x mn ml 5 (rs ++ [r]) nv' lv' w (put6 W' (g + 3) (.int .i64 5) (.bool false) (.int .i64 0) (.string ByteArray.empty) nv' lv') := by
  have hlt := h.var.lt
  have h' := h.on hb
  have hk : ∀ b, (okR g b ∨ W.heap.size ≤ b) → b < W'.heap.size → okR g b ∧ (put6 W' (g + 3) (.int .i64 5) (.bool false) (.int .i64 0) (.string ByteArray.empty) nv' lv').heap[b]? = W'.heap[b]? := fun b hb _ => by
    have h1 : okR g b := by
      rcases hb with h | h
      · exact h
      · exact .inr (by omega)
    exact ⟨h1, put6_far (by rcases h1 with h | h <;> omega)⟩
  have hg : W'.grownBy (put6 W' (g + 3) (.int .i64 5) (.bool false) (.int .i64 0) (.string ByteArray.empty) nv' lv') (some (g + 3)) := gb_put6
  refine ⟨h'.var, ⟨h'.below.trans (gb_down hg (by have := hb.size; omega) (by omega)), h'.want.grown hg (by simp), h'.more.grown hg (by simp), h'.out.grown hg (by simp), h'.var.put6, ?_, ?_, ?_⟩⟩
  · rw [List.map_append]; exact hS.keep hk hg.size
  · rw [List.map_append]; exact hL.keep hk hg.size
  · intro p hp
    rw [List.map_append] at hp
    rcases List.mem_append.1 hp with hp | hp
    · exact h.texts p hp
    · rw [List.mem_singleton.1 hp]; exact ht
theorem RSt.value (h : RSt g q x mn ml 5 rs nv lv w W) (hl : rs.length ≤ 1000) : IsJ W (okR g) (jv 5 false 0 ByteArray.empty nv lv) (Vq.objOf rs) :=
  isJ_obj h.names h.texts (by rw [List.length_map]; omega) h.list
end

set_option maxHeartbeats 4000000 in
set_option maxRecDepth 100000 in
theorem refMake_any {ok : Nat → Prop} {q : Vq.Want} {sub : List Nat} {life : Int} (x : Jq.J) (v : Value) (w : World) (hq : WantOk q) (hs : TextOk sub) (hJ : IsJ w ok v x) (hx : x.list.length ≤ 100) :
    Calls Tryd.prog 17 #[wantv q, .string (strOf sub), .int .i64 life, v] w (RGetEnd (fun _ => True) (Vq.makeP q sub life x) w) := by
  obtain ⟨mn, ml, rfl, _, _, _, hXS, hXT, _, hXL⟩ := hJ.parts
  obtain ⟨B1, d1, rfl⟩ := hXS.form
  obtain ⟨B2, d2, rfl⟩ := hXL.form
  obtain ⟨W0, eW0⟩ : ∃ W0, W0 = (((w.alloc (.cells #[.string (strOf q.issuer), .string (strOf q.aud), .string (strOf q.nonce), .int .i64 q.now, .int .i64 q.slack] 30)).alloc (.cells #[.int .i64 x.kind, .bool x.bool, .int .i64 x.int, .string (strOf x.text), .slice B1 x.names.length d1, .slice B2 x.list.length d2] 28)).alloc (.cells #[.int .i64 0, .bool false, .int .i64 0, .string { data := #[] }, .slice none 0 0, .slice none 0 0] 28)).alloc (.cells #[.int .i64 0, .bool false, .int .i64 0, .string { data := #[] }, .slice none 0 0, .slice none 0 0] 28) := ⟨_, rfl⟩
  obtain ⟨N, eN⟩ : ∃ N, x.names.length = N := ⟨_, rfl⟩
  obtain ⟨M, eM⟩ : ∃ M, x.list.length = M := ⟨_, rfl⟩
  rw [eN] at hXS
  rw [eM] at hXL hx
  rw [eN, eM] at eW0
  rw [eN, eM]
  have hst : RSt w.heap.size q x (.slice B1 N d1) (.slice B2 M d2) 0 [] (.slice none 0 0) (.slice none 0 0) w W0 := by
    refine ⟨?_, ?_, ?_, ?_, ?_, SlIs.nil _ _, ⟨[], SlIs.nil _ _, rfl, Nat.zero_le _, fun i v x h => by simp at h⟩, fun _ h => nomatch h⟩
    · rw [eW0]; exact (((one_alloc _ _).alloc (by simp) _).alloc (by simp; omega) _).alloc (by simp; omega) _
    · rw [eW0]; exact (((Lies.new_ rfl).alloc _).alloc _).alloc _
    · rw [eW0]; exact ((Lies.new_ (by simp)).alloc _).alloc _
    · rw [eW0]; exact (Lies.new_ (by simp)).alloc _
    · rw [eW0]; exact Lies.new_ (by simp)
  have HXB : Hid (∀ W, Below w.heap.size w W → SlIs W (okR w.heap.size) (.slice B1 N d1) N (tcells x.names) ∧ ListIs W (okR w.heap.size) (.slice B2 M d2) x.list) := fun W hb => ⟨hXS.keep (fun b _ hl => ⟨.inl hl, hb.block b hl⟩) hb.size, by
    have := hXL.keep (ok' := okR w.heap.size) (fun b _ hl => ⟨.inl hl, hb.block b hl⟩) hb.size
    exact this⟩
  have HR1 : Hid (Vq.baseRows q sub life = [(Vq.issN, Jq.textJ q.issuer), (Vq.subN, Jq.textJ sub), (Vq.audN, Jq.textJ q.aud), (Vq.expN, Jq.intJ (Vq.add q.now life)), (Vq.iatN, Jq.intJ (Vq.add q.now 0))] ++ (if q.nonce = [] then [] else [(Vq.nonceN, Jq.textJ q.nonce)])) := rfl
  have HRL : Hid ((Vq.baseRows q sub life).length ≤ 6) := Vq.base_len q sub life
  have hmk : Vq.makeP q sub life x = if sub = [] ∨ (Jq.valueP 16 [] (Vq.objOf (Vq.baseRows q sub life ++ Vq.moreRows x))).isSome = false then none else some (Vq.objOf (Vq.baseRows q sub life ++ Vq.moreRows x)) := rfl
  obtain ⟨R1, eR1⟩ : ∃ R1, Vq.baseRows q sub life = R1 := ⟨_, rfl⟩
  obtain ⟨RES, eRES⟩ : ∃ RES, Vq.makeP q sub life x = RES := ⟨_, rfl⟩
  rw [eRES] at hmk ⊢
  rw [eR1] at hmk HR1 HRL
  have HMK := Lib.hid hmk
  have HQ := Lib.hid hq
  have HSUB := Lib.hid hs
  have HXT := Lib.hid hXT
  have HN := Lib.hid eN
  have HM := Lib.hid eM
  have HM1 := Lib.hid hx
  have HW0 := Lib.hid eW0
  have HS0 := Lib.hid hst
  clear hq hs hx hJ hXS hXL hXT eN eM hmk eW0 eR1 eRES hst
  go_enter Tryd.func17, Tryd.ntmps17
  go_upto_region 2 with (fail)
  rw [← HW0.out]
  have hst := HS0.out
  obtain ⟨⟨z0, z1, z2, z3, z4, z5⟩, _⟩ := hst.var.six
  have k0 := cell_regrown z0
  have k1 := cell_regrown z1
  have k2 := cell_regrown z2
  have k3 := cell_regrown z3
  have k4 := cell_regrown z4
  have k5 := cell_regrown z5
  have kw := cell_regrown ((hst.want.cell 0).trans rfl)
  have cT : ∀ d os, Calls Tryd.prog 34 #[.string (strOf q.issuer)] (grow (redrawn W0 d) os) fun e w2 => e = .returned (jv 3 false 0 (strOf q.issuer) nilS nilS) ∧ ∃ r : Regrown, w2 = grow (redrawn W0 r.d) r.os := fun d os => Calls.regrown_of (refText_any _ _)
  clear z0 z1 z2 z3 z4 z5 hst
  refine wp_region_quiet_tail 4 (by kernel_rfl) (by kernel_rfl) (by kernel_rfl) (by kernel_rfl) (by kernel_rfl) ?_
  simp only [List.take_succ_cons, List.take_zero, List.drop_succ_cons, List.drop_zero]
  repeat (go_big_quiet_step (first | with_reducible exact cT _ _))
  refine wpQuiet_nil ?_
  intro w' hw'
  obtain ⟨⟨dq, osq⟩, hw''⟩ := hw'
  subst hw''
  have hfin := below_regrown W0 dq osq
  generalize hWq : grow (redrawn W0 dq) osq = Wa0 at hfin ⊢
  clear k0 k1 k2 k3 k4 k5 kw cT hWq
  have HSa0 := Lib.hid (HS0.out.on hfin)
  have hC := refWith_any (t := Vq.issN) (kd := 0) Wa0 HSa0.out.names HSa0.out.list (isJ_text Wa0 (okR w.heap.size) HQ.out.1) (by simp) (by simp)
  clear hfin
  go_wp2_with fail
  refine hC.mono ?_
  rintro e Wb0 ⟨A2, n2, c2, A3, n3, c3, rfl, hS', hL', hb'⟩
  clear hC
  obtain ⟨hl', hs'⟩ := HSa0.out.next (r := (Vq.issN, Jq.textJ q.issuer)) hS' hL' hb' (show TextOk Vq.issN by decide)
  obtain ⟨⟨x0, x1, x2, x3, x4, x5⟩, g0, g1, g2, g3, g4, g5⟩ := hl'.six
  obtain ⟨W1, eW⟩ : ∃ W, W = put6 Wb0 (w.heap.size + 1 + 1 + 1) (.int .i64 5) (.bool false) (.int .i64 0) (.string ByteArray.empty) (.slice A2 n2 c2) (.slice A3 n3 c3) := ⟨_, rfl⟩
  rw [show put6 Wb0 (w.heap.size + 3) (.int .i64 5) (.bool false) (.int .i64 0) (.string ByteArray.empty) (.slice A2 n2 c2) (.slice A3 n3 c3) = W1 from eW.symm] at hs'
  have HS1 := Lib.hid hs'
  have HW1 := Lib.hid eW
  clear hl' hs' eW hS' hL' hb'
  go_upto_region 3 with (fail)
  have hx := HW1.out
  unfold put6 at hx
  rw [← hx]
  clear x0 x1 x2 x3 x4 x5 g0 g1 g2 g3 g4 g5 hx
  have hst := HS1.out
  obtain ⟨⟨z0, z1, z2, z3, z4, z5⟩, _⟩ := hst.var.six
  have k0 := cell_regrown z0
  have k1 := cell_regrown z1
  have k2 := cell_regrown z2
  have k3 := cell_regrown z3
  have k4 := cell_regrown z4
  have k5 := cell_regrown z5
  have cT : ∀ d os, Calls Tryd.prog 34 #[.string (strOf sub)] (grow (redrawn W1 d) os) fun e w2 => e = .returned (jv 3 false 0 (strOf sub) nilS nilS) ∧ ∃ r : Regrown, w2 = grow (redrawn W1 r.d) r.os := fun d os => Calls.regrown_of (refText_any _ _)
  clear z0 z1 z2 z3 z4 z5 hst
  refine wp_region_quiet_tail 3 (by kernel_rfl) (by kernel_rfl) (by kernel_rfl) (by kernel_rfl) (by kernel_rfl) ?_
  simp only [List.take_succ_cons, List.take_zero, List.drop_succ_cons, List.drop_zero]
  repeat (go_big_quiet_step (first | with_reducible exact cT _ _))
  refine wpQuiet_nil ?_
  intro w' hw'
  obtain ⟨⟨dq, osq⟩, hw''⟩ := hw'
  subst hw''
  have hfin := below_regrown W1 dq osq
  generalize hWq : grow (redrawn W1 dq) osq = Wa1 at hfin ⊢
  clear k0 k1 k2 k3 k4 k5 cT hWq
  have HSa1 := Lib.hid (HS1.out.on hfin)
  have hC := refWith_any (t := Vq.subN) (kd := 5) Wa1 HSa1.out.names HSa1.out.list (isJ_text Wa1 (okR w.heap.size) HSUB.out) (by simp) (by simp)
  clear hfin
  go_wp2_with fail
  refine hC.mono ?_
  rintro e Wb1 ⟨A4, n4, c4, A5, n5, c5, rfl, hS', hL', hb'⟩
  clear hC
  obtain ⟨hl', hs'⟩ := HSa1.out.next (r := (Vq.subN, Jq.textJ sub)) hS' hL' hb' (show TextOk Vq.subN by decide)
  obtain ⟨⟨x0, x1, x2, x3, x4, x5⟩, g0, g1, g2, g3, g4, g5⟩ := hl'.six
  obtain ⟨W2, eW⟩ : ∃ W, W = put6 Wb1 (w.heap.size + 1 + 1 + 1) (.int .i64 5) (.bool false) (.int .i64 0) (.string ByteArray.empty) (.slice A4 n4 c4) (.slice A5 n5 c5) := ⟨_, rfl⟩
  rw [show put6 Wb1 (w.heap.size + 3) (.int .i64 5) (.bool false) (.int .i64 0) (.string ByteArray.empty) (.slice A4 n4 c4) (.slice A5 n5 c5) = W2 from eW.symm] at hs'
  have HS2 := Lib.hid hs'
  have HW2 := Lib.hid eW
  clear hl' hs' eW hS' hL' hb'
  go_upto_region 4 with (fail)
  have hx := HW2.out
  unfold put6 at hx
  rw [← hx]
  clear x0 x1 x2 x3 x4 x5 g0 g1 g2 g3 g4 g5 hx
  have hst := HS2.out
  obtain ⟨⟨z0, z1, z2, z3, z4, z5⟩, _⟩ := hst.var.six
  have k0 := cell_regrown z0
  have k1 := cell_regrown z1
  have k2 := cell_regrown z2
  have k3 := cell_regrown z3
  have k4 := cell_regrown z4
  have k5 := cell_regrown z5
  have kw := cell_regrown ((hst.want.cell 1).trans rfl)
  have cT : ∀ d os, Calls Tryd.prog 34 #[.string (strOf q.aud)] (grow (redrawn W2 d) os) fun e w2 => e = .returned (jv 3 false 0 (strOf q.aud) nilS nilS) ∧ ∃ r : Regrown, w2 = grow (redrawn W2 r.d) r.os := fun d os => Calls.regrown_of (refText_any _ _)
  clear z0 z1 z2 z3 z4 z5 hst
  refine wp_region_quiet_tail 4 (by kernel_rfl) (by kernel_rfl) (by kernel_rfl) (by kernel_rfl) (by kernel_rfl) ?_
  simp only [List.take_succ_cons, List.take_zero, List.drop_succ_cons, List.drop_zero]
  repeat (go_big_quiet_step (first | with_reducible exact cT _ _))
  refine wpQuiet_nil ?_
  intro w' hw'
  obtain ⟨⟨dq, osq⟩, hw''⟩ := hw'
  subst hw''
  have hfin := below_regrown W2 dq osq
  generalize hWq : grow (redrawn W2 dq) osq = Wa2 at hfin ⊢
  clear k0 k1 k2 k3 k4 k5 kw cT hWq
  have HSa2 := Lib.hid (HS2.out.on hfin)
  have hC := refWith_any (t := Vq.audN) (kd := 5) Wa2 HSa2.out.names HSa2.out.list (isJ_text Wa2 (okR w.heap.size) HQ.out.2.1) (by simp) (by simp)
  clear hfin
  go_wp2_with fail
  refine hC.mono ?_
  rintro e Wb2 ⟨A6, n6, c6, A7, n7, c7, rfl, hS', hL', hb'⟩
  clear hC
  obtain ⟨hl', hs'⟩ := HSa2.out.next (r := (Vq.audN, Jq.textJ q.aud)) hS' hL' hb' (show TextOk Vq.audN by decide)
  obtain ⟨⟨x0, x1, x2, x3, x4, x5⟩, g0, g1, g2, g3, g4, g5⟩ := hl'.six
  obtain ⟨W3, eW⟩ : ∃ W, W = put6 Wb2 (w.heap.size + 1 + 1 + 1) (.int .i64 5) (.bool false) (.int .i64 0) (.string ByteArray.empty) (.slice A6 n6 c6) (.slice A7 n7 c7) := ⟨_, rfl⟩
  rw [show put6 Wb2 (w.heap.size + 3) (.int .i64 5) (.bool false) (.int .i64 0) (.string ByteArray.empty) (.slice A6 n6 c6) (.slice A7 n7 c7) = W3 from eW.symm] at hs'
  have HS3 := Lib.hid hs'
  have HW3 := Lib.hid eW
  clear hl' hs' eW hS' hL' hb'
  go_upto_region 5 with (fail)
  have hx := HW3.out
  unfold put6 at hx
  rw [← hx]
  clear x0 x1 x2 x3 x4 x5 g0 g1 g2 g3 g4 g5 hx
  have hst := HS3.out
  obtain ⟨⟨z0, z1, z2, z3, z4, z5⟩, _⟩ := hst.var.six
  have k0 := cell_regrown z0
  have k1 := cell_regrown z1
  have k2 := cell_regrown z2
  have k3 := cell_regrown z3
  have k4 := cell_regrown z4
  have k5 := cell_regrown z5
  have kw := cell_regrown ((hst.want.cell 3).trans rfl)
  have cA : ∀ d os, Calls Tryd.prog 12 #[.int .i64 q.now, .int .i64 life] (grow (redrawn W3 d) os) fun e w2 => e = .returned (.int .i64 (Vq.add q.now life)) ∧ ∃ r : Regrown, w2 = grow (redrawn W3 r.d) r.os := fun d os => Calls.regrown_of ((refAdd_any q.now life _).mono fun e w' h => by obtain ⟨rfl, he⟩ := h; exact ⟨he, Below.refl _ _⟩)
  have cT : ∀ d os, Calls Tryd.prog 35 #[.int .i64 (Vq.add q.now life)] (grow (redrawn W3 d) os) fun e w2 => e = .returned (jv 2 false (Vq.add q.now life) ByteArray.empty nilS nilS) ∧ ∃ r : Regrown, w2 = grow (redrawn W3 r.d) r.os := fun d os => Calls.regrown_of (refInt_any _ _)
  clear z0 z1 z2 z3 z4 z5 hst
  refine wp_region_quiet_tail 6 (by kernel_rfl) (by kernel_rfl) (by kernel_rfl) (by kernel_rfl) (by kernel_rfl) ?_
  simp only [List.take_succ_cons, List.take_zero, List.drop_succ_cons, List.drop_zero]
  repeat (go_big_quiet_step (first | with_reducible exact cA _ _ | with_reducible exact cT _ _))
  refine wpQuiet_nil ?_
  intro w' hw'
  obtain ⟨⟨dq, osq⟩, hw''⟩ := hw'
  subst hw''
  have hfin := below_regrown W3 dq osq
  generalize hWq : grow (redrawn W3 dq) osq = Wa3 at hfin ⊢
  clear k0 k1 k2 k3 k4 k5 kw cT cA hWq
  have HSa3 := Lib.hid (HS3.out.on hfin)
  have hC := refWith_any (t := Vq.expN) (kd := 5) Wa3 HSa3.out.names HSa3.out.list (isJ_num Wa3 (okR w.heap.size) (add_ge q.now life)) (by simp) (by simp)
  clear hfin
  go_wp2_with fail
  refine hC.mono ?_
  rintro e Wb3 ⟨A8, n8, c8, A9, n9, c9, rfl, hS', hL', hb'⟩
  clear hC
  obtain ⟨hl', hs'⟩ := HSa3.out.next (r := (Vq.expN, Jq.intJ (Vq.add q.now life))) hS' hL' hb' (show TextOk Vq.expN by decide)
  obtain ⟨⟨x0, x1, x2, x3, x4, x5⟩, g0, g1, g2, g3, g4, g5⟩ := hl'.six
  obtain ⟨W4, eW⟩ : ∃ W, W = put6 Wb3 (w.heap.size + 1 + 1 + 1) (.int .i64 5) (.bool false) (.int .i64 0) (.string ByteArray.empty) (.slice A8 n8 c8) (.slice A9 n9 c9) := ⟨_, rfl⟩
  rw [show put6 Wb3 (w.heap.size + 3) (.int .i64 5) (.bool false) (.int .i64 0) (.string ByteArray.empty) (.slice A8 n8 c8) (.slice A9 n9 c9) = W4 from eW.symm] at hs'
  have HS4 := Lib.hid hs'
  have HW4 := Lib.hid eW
  clear hl' hs' eW hS' hL' hb'
  go_upto_region 6 with (fail)
  have hx := HW4.out
  unfold put6 at hx
  rw [← hx]
  clear x0 x1 x2 x3 x4 x5 g0 g1 g2 g3 g4 g5 hx
  have hst := HS4.out
  obtain ⟨⟨z0, z1, z2, z3, z4, z5⟩, _⟩ := hst.var.six
  have k0 := cell_regrown z0
  have k1 := cell_regrown z1
  have k2 := cell_regrown z2
  have k3 := cell_regrown z3
  have k4 := cell_regrown z4
  have k5 := cell_regrown z5
  have kw := cell_regrown ((hst.want.cell 3).trans rfl)
  have cA : ∀ d os, Calls Tryd.prog 12 #[.int .i64 q.now, .int .i64 0] (grow (redrawn W4 d) os) fun e w2 => e = .returned (.int .i64 (Vq.add q.now 0)) ∧ ∃ r : Regrown, w2 = grow (redrawn W4 r.d) r.os := fun d os => Calls.regrown_of ((refAdd_any q.now 0 _).mono fun e w' h => by obtain ⟨rfl, he⟩ := h; exact ⟨he, Below.refl _ _⟩)
  have cT : ∀ d os, Calls Tryd.prog 35 #[.int .i64 (Vq.add q.now 0)] (grow (redrawn W4 d) os) fun e w2 => e = .returned (jv 2 false (Vq.add q.now 0) ByteArray.empty nilS nilS) ∧ ∃ r : Regrown, w2 = grow (redrawn W4 r.d) r.os := fun d os => Calls.regrown_of (refInt_any _ _)
  clear z0 z1 z2 z3 z4 z5 hst
  refine wp_region_quiet_tail 5 (by kernel_rfl) (by kernel_rfl) (by kernel_rfl) (by kernel_rfl) (by kernel_rfl) ?_
  simp only [List.take_succ_cons, List.take_zero, List.drop_succ_cons, List.drop_zero]
  repeat (go_big_quiet_step (first | with_reducible exact cA _ _ | with_reducible exact cT _ _))
  refine wpQuiet_nil ?_
  intro w' hw'
  obtain ⟨⟨dq, osq⟩, hw''⟩ := hw'
  subst hw''
  have hfin := below_regrown W4 dq osq
  generalize hWq : grow (redrawn W4 dq) osq = Wa4 at hfin ⊢
  clear k0 k1 k2 k3 k4 k5 kw cT cA hWq
  have HSa4 := Lib.hid (HS4.out.on hfin)
  have hC := refWith_any (t := Vq.iatN) (kd := 5) Wa4 HSa4.out.names HSa4.out.list (isJ_num Wa4 (okR w.heap.size) (add_ge q.now 0)) (by simp) (by simp)
  clear hfin
  go_wp2_with fail
  refine hC.mono ?_
  rintro e Wb4 ⟨A10, n10, c10, A11, n11, c11, rfl, hS', hL', hb'⟩
  clear hC
  obtain ⟨hl', hs'⟩ := HSa4.out.next (r := (Vq.iatN, Jq.intJ (Vq.add q.now 0))) hS' hL' hb' (show TextOk Vq.iatN by decide)
  obtain ⟨⟨x0, x1, x2, x3, x4, x5⟩, g0, g1, g2, g3, g4, g5⟩ := hl'.six
  obtain ⟨W5, eW⟩ : ∃ W, W = put6 Wb4 (w.heap.size + 1 + 1 + 1) (.int .i64 5) (.bool false) (.int .i64 0) (.string ByteArray.empty) (.slice A10 n10 c10) (.slice A11 n11 c11) := ⟨_, rfl⟩
  rw [show put6 Wb4 (w.heap.size + 3) (.int .i64 5) (.bool false) (.int .i64 0) (.string ByteArray.empty) (.slice A10 n10 c10) (.slice A11 n11 c11) = W5 from eW.symm] at hs'
  have HS5 := Lib.hid hs'
  have HW5 := Lib.hid eW
  clear hl' hs' eW hS' hL' hb'
  go_upto_region 7 with (fail)
  have hx := HW5.out
  unfold put6 at hx
  rw [← hx]
  clear x0 x1 x2 x3 x4 x5 g0 g1 g2 g3 g4 g5 hx
  obtain ⟨NB, eNB⟩ : ∃ b, decide (q.nonce ≠ []) = b := ⟨_, rfl⟩
  have HNB := Lib.hid eNB
  clear eNB
  go_cut [43] (fun v wx => v = .bool NB ∧ wx = W5)
  case first =>
    have hwn : W5.cell? ⟨w.heap.size, 2, none⟩ = some (.string (strOf q.nonce)) := HS5.out.want.cell 2
    by_cases hne : q.nonce = []
    · have hE : (strOf q.nonce) = ByteArray.empty := by rw [hne]; rfl
      rw [hE] at hwn
      have HX : Hid (false = NB) := by unfold Hid; rw [← HNB.out, hne]; rfl
      clear hne hE
      go_wp2_with fail
      go_meet
      exact ⟨congrArg Value.bool HX.out, rfl⟩
    · have hE : (strOf q.nonce).toList.isEmpty = false := by
        rw [ByteArray.toList_eq]
        cases hc : q.nonce with
        | nil => exact absurd hc hne
        | cons a r => rfl
      have hE2 : (strOf q.nonce).toList ≠ [] := fun h => by rw [h] at hE; cases hE
      have HX : Hid (true = NB) := by unfold Hid; rw [← HNB.out, decide_eq_true hne]
      clear hne
      go_wp2_with fail
      go_meet
      exact ⟨congrArg Value.bool HX.out, rfl⟩
  case rest =>
  obtain ⟨e43, ewc⟩ := hcut
  subst e43
  rw [ewc]
  clear ewc
  go_upto_if 43 with (fail)
  go_cut [] (fun wx => ∃ A1 m1 c1 A2 m2 c2, Hid (RSt w.heap.size q x (.slice B1 N d1) (.slice B2 M d2) 5 R1 (.slice A1 m1 c1) (.slice A2 m2 c2) w wx))
  case first =>
    cases NB with
    | false =>
      have hrs : R1 = [(Vq.issN, Jq.textJ q.issuer), (Vq.subN, Jq.textJ sub), (Vq.audN, Jq.textJ q.aud), (Vq.expN, Jq.intJ (Vq.add q.now life)), (Vq.iatN, Jq.intJ (Vq.add q.now 0))] := by
        rw [HR1.out, if_pos (by have := HNB.out; simpa using this)]; rfl
      have HE : Hid (RSt w.heap.size q x (.slice B1 N d1) (.slice B2 M d2) 5 R1 (.slice A10 n10 c10) (.slice A11 n11 c11) w W5) := by rw [hrs]; exact HS5
      clear hrs
      go_wp2_with fail
      go_meet
      exact ⟨_, _, _, _, _, _, HE⟩
    | true =>
      have HRS : Hid (R1 = [(Vq.issN, Jq.textJ q.issuer), (Vq.subN, Jq.textJ sub), (Vq.audN, Jq.textJ q.aud), (Vq.expN, Jq.intJ (Vq.add q.now life)), (Vq.iatN, Jq.intJ (Vq.add q.now 0)), (Vq.nonceN, Jq.textJ q.nonce)]) := by
        unfold Hid
        rw [HR1.out, if_neg (by have := HNB.out; simpa using this)]; rfl
      go_upto_region 8 with (fail)
      have hst := HS5.out
      obtain ⟨⟨z0, z1, z2, z3, z4, z5⟩, _⟩ := hst.var.six
      have k0 := cell_regrown z0
      have k1 := cell_regrown z1
      have k2 := cell_regrown z2
      have k3 := cell_regrown z3
      have k4 := cell_regrown z4
      have k5 := cell_regrown z5
      have kw := cell_regrown ((hst.want.cell 2).trans rfl)
      have cT : ∀ d os, Calls Tryd.prog 34 #[.string (strOf q.nonce)] (grow (redrawn W5 d) os) fun e w2 => e = .returned (jv 3 false 0 (strOf q.nonce) nilS nilS) ∧ ∃ r : Regrown, w2 = grow (redrawn W5 r.d) r.os := fun d os => Calls.regrown_of (refText_any _ _)
      clear z0 z1 z2 z3 z4 z5 hst
      refine wp_region_quiet_tail 4 (by kernel_rfl) (by kernel_rfl) (by kernel_rfl) (by kernel_rfl) (by kernel_rfl) ?_
      simp only [List.take_succ_cons, List.take_zero, List.drop_succ_cons, List.drop_zero]
      repeat (go_big_quiet_step (first | with_reducible exact cT _ _))
      refine wpQuiet_nil ?_
      intro w' hw'
      obtain ⟨⟨dq, osq⟩, hw''⟩ := hw'
      subst hw''
      have hfin := below_regrown W5 dq osq
      generalize hWq : grow (redrawn W5 dq) osq = Wa5 at hfin ⊢
      clear k0 k1 k2 k3 k4 k5 kw cT hWq
      have HSa5 := Lib.hid (HS5.out.on hfin)
      have hC := refWith_any (t := Vq.nonceN) (kd := 5) Wa5 HSa5.out.names HSa5.out.list (isJ_text Wa5 (okR w.heap.size) HQ.out.2.2.1) (by simp) (by simp)
      clear hfin
      go_wp2_with fail
      refine hC.mono ?_
      rintro e Wb5 ⟨A12, n12, c12, A13, n13, c13, rfl, hS', hL', hb'⟩
      clear hC
      obtain ⟨hl', hs'⟩ := HSa5.out.next (r := (Vq.nonceN, Jq.textJ q.nonce)) hS' hL' hb' (show TextOk Vq.nonceN by decide)
      obtain ⟨⟨x0, x1, x2, x3, x4, x5⟩, g0, g1, g2, g3, g4, g5⟩ := hl'.six
      obtain ⟨W6, eW⟩ : ∃ W, W = put6 Wb5 (w.heap.size + 1 + 1 + 1) (.int .i64 5) (.bool false) (.int .i64 0) (.string ByteArray.empty) (.slice A12 n12 c12) (.slice A13 n13 c13) := ⟨_, rfl⟩
      rw [show put6 Wb5 (w.heap.size + 3) (.int .i64 5) (.bool false) (.int .i64 0) (.string ByteArray.empty) (.slice A12 n12 c12) (.slice A13 n13 c13) = W6 from eW.symm] at hs'
      have HS6 := Lib.hid hs'
      have HW6 := Lib.hid eW
      clear hl' hs' eW hS' hL' hb'
      have HE : Hid (RSt w.heap.size q x (.slice B1 N d1) (.slice B2 M d2) 5 R1 (.slice A12 n12 c12) (.slice A13 n13 c13) w W6) := by rw [HRS.out]; exact HS6
      go_wp2_with fail
      go_meet
      have hx := HW6.out
      unfold put6 at hx
      rw [← hx]
      exact ⟨_, _, _, _, _, _, HE⟩
  case rest =>
  obtain ⟨A1, m1, c1, A2, m2, c2, HB⟩ := hcut
  obtain ⟨WC, eWC⟩ : ∃ W, wc = W := ⟨_, rfl⟩
  rw [eWC] at HB ⊢
  clear eWC
  clear HS0 HW0 HS1 HW1 HS2 HW2 HS3 HW3 HS4 HW4 HS5 HW5 HSa0 HSa1 HSa2 HSa3 HSa4
  go_upto_region 9 with (fail)
  obtain ⟨KB, eKB⟩ : ∃ b, decide (x.kind = 5 ∧ N = M) = b := ⟨_, rfl⟩
  have HKB := Lib.hid eKB
  clear eKB
  go_cut [60] (fun v wx => v = .bool KB ∧ wx = WC)
  case first =>
    obtain ⟨⟨y0, _, _, _, y4, y5⟩, _⟩ := HB.out.more.six
    by_cases h5 : x.kind = 5
    · have d5 : (x.kind == 5) = true := by rw [h5]; rfl
      by_cases hnm : N = M
      · have d6 : ((N : Int) == (M : Int)) = true := by rw [hnm]; simp
        have HX : Hid (true = KB) := by unfold Hid; rw [← HKB.out, decide_eq_true ⟨h5, hnm⟩]
        clear h5 hnm
        go_wp2_with fail
        go_meet
        exact ⟨congrArg Value.bool HX.out, rfl⟩
      · have d6 : ((N : Int) == (M : Int)) = false := by rw [beq_eq_false_iff_ne]; intro h; exact hnm (by omega)
        have HX : Hid (false = KB) := by unfold Hid; rw [← HKB.out, decide_eq_false (fun h => hnm h.2)]
        clear h5 hnm
        go_wp2_with fail
        go_meet
        exact ⟨congrArg Value.bool HX.out, rfl⟩
    · have d5 : (x.kind == 5) = false := by rw [beq_eq_false_iff_ne]; exact h5
      have HX : Hid (false = KB) := by unfold Hid; rw [← HKB.out, decide_eq_false (fun h => h5 h.1)]
      clear h5
      go_wp2_with fail
      go_meet
      exact ⟨congrArg Value.bool HX.out, rfl⟩
  case rest =>
  obtain ⟨e60, ewc⟩ := hcut
  subst e60
  rw [ewc]
  clear ewc
  go_upto_if 60 with (fail)
  go_cut [] (fun wx => ∃ A1 m1 c1 A2 m2 c2, Hid (RSt w.heap.size q x (.slice B1 N d1) (.slice B2 M d2) 5 (R1 ++ Vq.moreRows x) (.slice A1 m1 c1) (.slice A2 m2 c2) w wx))
  case first =>
    obtain ⟨⟨y0, _, _, _, y4, y5⟩, _⟩ := HB.out.more.six
    cases KB with
    | false =>
      have hc : ¬ (x.kind = 5 ∧ N = M) := by have := HKB.out; simpa using this
      have hMR : Vq.moreRows x = [] := more_none (fun h => hc ⟨h.1, by rw [← HN.out, ← HM.out]; exact h.2⟩)
      have HE : Hid (RSt w.heap.size q x (.slice B1 N d1) (.slice B2 M d2) 5 (R1 ++ Vq.moreRows x) (.slice A1 m1 c1) (.slice A2 m2 c2) w WC) := by rw [hMR, List.append_nil]; exact HB
      clear hc hMR
      go_wp2_with fail
      go_meet
      exact ⟨_, _, _, _, _, _, HE⟩
    | true =>
    obtain ⟨h5, rfl⟩ : x.kind = 5 ∧ N = M := by have := HKB.out; simpa using this
    have HMR : Hid (∀ k, N ≤ k → othRows x k = Vq.moreRows x) := fun k hk => oth_all h5 (by rw [HN.out, HM.out]) (by rw [HN.out]; exact hk)
    clear h5
    have hN100 : N ≤ 100 := HM1.out
    go_wp2_with fail
    go_loopw [11] (fun i wr => ∃ k : Nat, i = .int .i64 k ∧ k ≤ N ∧ ∃ A1 m1 c1 A2 m2 c2, Hid (RSt w.heap.size q x (.slice B1 N d1) (.slice B2 N d2) 5 (R1 ++ othRows x k) (.slice A1 m1 c1) (.slice A2 m2 c2) w wr)) (fun i _ => N - (intOf i).toNat)
    case atStart => exact ⟨0, rfl, Nat.zero_le _, _, _, _, _, _, _, by rw [oth_zero, List.append_nil]; exact HB⟩
    case round =>
      clear y0 y4 y5
      obtain ⟨k, rfl, hk, A1, m1, c1, A2, m2, c2, HSt⟩ := hrel
      obtain ⟨⟨_, _, _, _, y4, y5⟩, _⟩ := HSt.out.more.six
      by_cases hlt : k < N
      · have hk5 : decide ((k : Int) < 5000) = true := decide_eq_true (by omega)
        obtain ⟨b, off, t, e1, _, _, _, hp, p0⟩ := slIs_text (HXB.out wr HSt.out.below).1 HN.out hlt
        obtain ⟨b2, off2, y, C1, f1, C2, f2, e2, _, _, hx, hJy, s0, s1, s2, s3, s4, s5⟩ := (HXB.out wr HSt.out.below).2.elem (by rw [HM.out]; exact hlt)
        subst e1 e2
        have HT := Lib.hid (HXT.out t (List.mem_of_getElem? hp))
        have hR := refReserved_any t HT.out.2 wr
        have HSC := Lib.hid (oth_succ hp hx)
        have HP := Lib.hid hp
        have HX := Lib.hid hx
        clear hp hx hJy
        by_cases hres : Vq.Reserved t
        · rw [decide_eq_true hres] at hR
          have HQR : Hid (othRows x k = othRows x (k + 1)) := by unfold Hid; rw [HSC.out, if_pos hres, List.append_nil]
          clear hres s0 s1 s2 s3 s4 s5
          go_wp2_with fail
          refine hR.mono ?_
          rintro e w1 ⟨rfl, hb1⟩
          have HQH := Lib.hid (HSt.out.on hb1)
          rw [HQR.out] at HQH
          clear hR p0 hb1 y4 y5
          go_wp2
          go_roundw
          case rel => exact ⟨k + 1, by go_num, hlt, _, _, _, _, _, _, HQH⟩
          case measure => simp [intOf]; omega
        · rw [decide_eq_false hres] at hR
          have HRS : Hid (othRows x (k + 1) = othRows x k ++ [(t, y)]) := by unfold Hid; rw [HSC.out, if_neg hres]
          clear hres s0 s1 s2 s3 s4 s5
          go_wp2_with fail
          refine hR.mono ?_
          rintro e w1 ⟨rfl, hb1⟩
          have HSt1 := Lib.hid (HSt.out.on hb1)
          clear hR p0 hb1 y4 y5
          go_upto_region 14 with (fail)
          have hst := HSt1.out
          obtain ⟨b0_, off0_, t', e1, _, _, _, hp', p0⟩ := slIs_text (HXB.out w1 hst.below).1 HN.out hlt
          obtain ⟨b2_, off2_, y', C1', f1', C2', f2', e2, _, _, hx', hJy', s0, s1, s2, s3, s4, s5⟩ := (HXB.out w1 hst.below).2.elem (by rw [HM.out]; exact hlt)
          obtain rfl : t = t' := Option.some.inj (HP.out.symm.trans hp')
          obtain rfl : y = y' := Option.some.inj (HX.out.symm.trans hx')
          obtain ⟨rfl, rfl⟩ : b = b0_ ∧ off = off0_ := by simpa using e1
          obtain ⟨rfl, rfl⟩ : b2 = b2_ ∧ off2 = off2_ := by simpa using e2
          obtain ⟨⟨z0, z1, z2, z3, z4, z5⟩, _⟩ := hst.var.six
          obtain ⟨⟨_, _, _, _, y4, y5⟩, _⟩ := hst.more.six
          have HJY2 := Lib.hid hJy'
          have k0 := cell_regrown z0
          have k1 := cell_regrown z1
          have k2 := cell_regrown z2
          have k3 := cell_regrown z3
          have k4 := cell_regrown z4
          have k5 := cell_regrown z5
          have km := cell_regrown y4
          have kl := cell_regrown y5
          have kt := cell_regrown p0
          have t0 := cell_regrown s0
          have t1 := cell_regrown s1
          have t2 := cell_regrown s2
          have t3 := cell_regrown s3
          have t4 := cell_regrown s4
          have t5 := cell_regrown s5
          have hlo : (0 : Int) ≤ (k : Int) := by omega
          have hhi : (k : Int) < (N : Int) := by omega
          clear z0 z1 z2 z3 z4 z5 y4 y5 p0 s0 s1 s2 s3 s4 s5 hst hp' hx' e1 e2 hJy'
          refine wp_region_quiet_tail 11 (by kernel_rfl) (by kernel_rfl) (by kernel_rfl) (by kernel_rfl) (by kernel_rfl) ?_
          simp only [List.take_succ_cons, List.take_zero, List.drop_succ_cons, List.drop_zero]
          repeat (go_big_quiet_step (fail))
          refine wpQuiet_nil ?_
          intro w' hw'
          obtain ⟨⟨dq, osq⟩, hw''⟩ := hw'
          subst hw''
          have hfin := below_regrown w1 dq osq
          generalize hWq : grow (redrawn w1 dq) osq = Wa at hfin ⊢
          clear k0 k1 k2 k3 k4 k5 km kl kt t0 t1 t2 t3 t4 t5 hWq hlo hhi
          have HSa := Lib.hid (HSt1.out.on hfin)
          have HLE : Hid ((R1 ++ othRows x k).length ≤ 1000) := by
            unfold Hid
            rw [List.length_append]
            have h1 := oth_len x k
            have h2 := HM.out
            have h3 := HRL.out
            omega
          have hC := refWith_any (t := t) (kd := 5) Wa HSa.out.names HSa.out.list (HJY2.out.on hfin) (by rw [List.length_map]; exact HLE.out) (by rw [List.length_map]; exact HLE.out)
          clear hfin
          go_wp2_with fail
          refine hC.mono ?_
          rintro e Wb ⟨A3, n3, c3, A4, n4, c4, rfl, hS', hL', hb'⟩
          clear hC
          obtain ⟨hl', hs'⟩ := HSa.out.next (r := (t, y)) hS' hL' hb' HT.out
          rw [List.append_assoc, ← HRS.out] at hs'
          obtain ⟨⟨x0, x1, x2, x3, x4, x5⟩, g0, g1, g2, g3, g4, g5⟩ := hl'.six
          have HS' := Lib.hid hs'
          clear hl' hs' hS' hL' hb'
          go_wp2
          go_roundw
          case rel => exact ⟨k + 1, by go_num, hlt, _, _, _, _, _, _, HS'⟩
          case measure => simp [intOf]; omega
      · obtain rfl : k = N := by omega
        have hd3 : decide ((k : Int) < (k : Int)) = false := by simp
        have HE : Hid (RSt w.heap.size q x (.slice B1 k d1) (.slice B2 k d2) 5 (R1 ++ Vq.moreRows x) (.slice A1 m1 c1) (.slice A2 m2 c2) w wr) := by rw [← HMR.out k (Nat.le_refl _)]; exact HSt
        go_wp2_with fail
        go_meet
        exact ⟨_, _, _, _, _, _, HE⟩
  case rest =>
  obtain ⟨A1, m1, c1, A2, m2, c2, HE⟩ := hcut
  have hval := HE.out.value (by rw [List.length_append]; have h1 := HRL.out; have h2 := Vq.more_len x; have h3 := HM.out; have h4 := HM1.out; omega)
  have hP := refPrint_any formOk10 _ _ wc hval
  obtain ⟨VP, eVP⟩ : ∃ VP, Jq.valueP 16 [] (Vq.objOf (R1 ++ Vq.moreRows x)) = VP := ⟨_, rfl⟩
  rw [eVP] at hP
  have HVP := Lib.hid eVP
  obtain ⟨⟨z0, z1, z2, z3, z4, z5⟩, _⟩ := HE.out.var.six
  clear eVP hval HB
  go_wp2_with fail
  refine hP.mono ?_
  intro e w1 hh
  clear hP z0 z1 z2 z3 z4 z5
  obtain ⟨hb, hh⟩ := hh
  have HE1 := Lib.hid (HE.out.on hb)
  obtain ⟨sx, rfl⟩ : ∃ sx, e = .returned (.tuple #[.string sx, .bool VP.isSome]) := by
    cases VP with
    | none => exact ⟨_, hh⟩
    | some y => exact ⟨_, hh.1⟩
  obtain ⟨r, er⟩ : ∃ r, VP.isSome = r := ⟨_, rfl⟩
  rw [er]
  have HOK : Hid ((Jq.valueP 16 [] (Vq.objOf (R1 ++ Vq.moreRows x))).isSome = r) := by unfold Hid; rw [HVP.out, er]
  clear hb hh er
  obtain ⟨⟨z0, z1, z2, z3, z4, z5⟩, _⟩ := HE1.out.var.six
  obtain ⟨_, g0, g1, g2, g3, g4, g5⟩ := HE1.out.out.six
  by_cases hbad : sub = [] ∨ r = false
  · have hr : RES = none := by
      rw [HMK.out, if_pos]
      rcases hbad with h | h
      · exact .inl h
      · exact .inr (by rw [HOK.out, h])
    have HEND : Hid (RGetEnd (fun _ => True) RES w (.returned (.tuple #[jv 0 false 0 ByteArray.empty nilS nilS, .bool false])) (put6 w1 (w.heap.size + 2) (.int .i64 0) (.bool false) (.int .i64 0) (.string { data := #[] }) (.slice none 0 0) (.slice none 0 0))) :=
      RGetEnd.no hr (HE1.out.below.trans (gb_down gb_put6 (by have := HE1.out.below.size; omega) (by omega)))
    obtain ⟨⟨q0, q1, q2, q3, q4, q5⟩, _⟩ := (HE1.out.out.put6 (a := .int .i64 0) (b := .bool false) (c := .int .i64 0) (d := .string { data := #[] }) (e := .slice none 0 0) (f := .slice none 0 0)).six
    clear hr z0 z1 z2 z3 z4 z5
    by_cases hsub : sub = []
    · have hE : strOf sub = ByteArray.empty := by rw [hsub]; rfl
      rw [hE]
      clear hsub hE hbad
      go_wp2
      exact bodyPost_ret (v := .tuple #[jv 0 false 0 ByteArray.empty nilS nilS, .bool false]) (by simp [results, Tryd.results17, go_sem, q0, q1, q2, q3, q4, q5]; rfl) rfl HEND.out
    · have hE : (strOf sub).toList.isEmpty = false := by
        rw [ByteArray.toList_eq]
        cases hc : sub with
        | nil => exact absurd hc hsub
        | cons a r => rfl
      have hE2 : (strOf sub).toList ≠ [] := fun h => by rw [h] at hE; cases hE
      obtain rfl : r = false := by
        rcases hbad with h | h
        · exact absurd h hsub
        · exact h
      clear hsub hbad
      go_wp2
      exact bodyPost_ret (v := .tuple #[jv 0 false 0 ByteArray.empty nilS nilS, .bool false]) (by simp [results, Tryd.results17, go_sem, q0, q1, q2, q3, q4, q5]; rfl) rfl HEND.out
  · obtain ⟨hsub, rfl⟩ : sub ≠ [] ∧ r = true := ⟨fun h => hbad (.inl h), by cases r with | true => rfl | false => exact absurd (.inr rfl) hbad⟩
    have hr : RES = some (Vq.objOf (R1 ++ Vq.moreRows x)) := by
      rw [HMK.out, if_neg]
      rintro (h | h)
      · exact hsub h
      · rw [HOK.out] at h; cases h
    have hE : (strOf sub).toList.isEmpty = false := by
      rw [ByteArray.toList_eq]
      cases hc : sub with
      | nil => exact absurd hc hsub
      | cons a r => rfl
    have hE2 : (strOf sub).toList ≠ [] := fun h => by rw [h] at hE; cases hE
    have hval := HE1.out.value (by rw [List.length_append]; have h1 := HRL.out; have h2 := Vq.more_len x; have h3 := HM.out; have h4 := HM1.out; omega)
    have hg6 : w1.grownBy (put6 w1 (w.heap.size + 2) (.int .i64 5) (.bool false) (.int .i64 0) (.string ByteArray.empty) (.slice A1 m1 c1) (.slice A2 m2 c2)) (some (w.heap.size + 2)) := gb_put6
    have HEND : Hid (RGetEnd (fun _ => True) RES w (.returned (.tuple #[jv 5 false 0 ByteArray.empty (.slice A1 m1 c1) (.slice A2 m2 c2), .bool true])) (put6 w1 (w.heap.size + 2) (.int .i64 5) (.bool false) (.int .i64 0) (.string ByteArray.empty) (.slice A1 m1 c1) (.slice A2 m2 c2))) :=
      RGetEnd.yes hr (HE1.out.below.trans (gb_down hg6 (by have := HE1.out.below.size; omega) (by omega))) (hval.keep (fun b hb _ => ⟨trivial, put6_far (by rcases hb with h | h <;> omega)⟩) hg6.size)
    obtain ⟨⟨q0, q1, q2, q3, q4, q5⟩, _⟩ := (HE1.out.out.put6 (a := .int .i64 5) (b := .bool false) (c := .int .i64 0) (d := .string ByteArray.empty) (e := .slice A1 m1 c1) (f := .slice A2 m2 c2)).six
    clear hr hval hg6 hsub hbad
    go_wp2
    exact bodyPost_ret (v := .tuple #[jv 5 false 0 ByteArray.empty (.slice A1 m1 c1) (.slice A2 m2 c2), .bool true]) (by simp [results, Tryd.results17, go_sem, q0, q1, q2, q3, q4, q5]) rfl HEND.out
end Go.Proofs.YtoocejcoaojaiaaDoor
