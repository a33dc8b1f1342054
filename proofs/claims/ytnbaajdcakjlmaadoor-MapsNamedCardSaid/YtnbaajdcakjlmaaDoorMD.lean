/-
  ofOne: what an operator makes of one operand.
-/
import Derived.Test.YtnbaajdcakjlmaaDoorMB
import Derived.Test.YtnbaajdcakjlmaaDoorM04
namespace Go.Proofs.YtnbaajdcakjlmaaDoor
open Go.RowKit

theorem valE_put {ok ok' : Nat → Prop} {x : Jq.J} {w w2 : World} {g : Nat} {a b c d e f : Value} (hg : w.heap.size ≤ g) (hb : Below w.heap.size w w2) (hk : ∀ b, ok' b → ok b ∧ b ≠ g) (hJ : IsJ w2 ok' (.agg #[a, b, c, d, e, f]) x) : ValE ok x w (.returned (.agg #[a, b, c, d, e, f])) (put6 w2 g a b c d e f) :=
  ⟨_, rfl, hJ.keep (fun b hb _ => ⟨(hk b hb).1, put6_far (hk b hb).2⟩) (Nat.le_of_eq put6_size.symm), hb.trans (gb_down gb_put6 hb.size hg)⟩
theorem IsJ.in_ {w : World} {ok : Nat → Prop} {v : Value} {x : Jq.J} (h : IsJ w ok v x) : IsJ w (fun b => ok b ∧ b < w.heap.size) v x := h.keep (fun _ hb hlt => ⟨⟨hb, hlt⟩, rfl⟩) (Nat.le_refl _)
theorem ListIs.in_ {w : World} {ok : Nat → Prop} {v : Value} {l : List Jq.J} (h : ListIs w ok v l) : ListIs w (fun b => ok b ∧ b < w.heap.size) v l := h.keep (fun _ hb hlt => ⟨⟨hb, hlt⟩, rfl⟩) (Nat.le_refl _)
abbrev box6 (k : Int) (b : Bool) (n : Int) (t : List Nat) (N M : Nat) (A1 : Option Addr) (c1 : Nat) (A2 : Option Addr) (c2 : Nat) : Obj := .cells #[.int .i64 k, .bool b, .int .i64 n, .string (strOf t), .slice A1 N c1, .slice A2 M c2] 27
abbrev zobj : Obj := .cells #[.int .i64 0, .bool false, .int .i64 0, .string ByteArray.empty, nilS, nilS] 27

set_option maxHeartbeats 1000000 in
set_option maxRecDepth 100000 in
theorem ofOne_lower {ok : Nat → Prop} {R : Jq.J} (b : Bool) (n : Int) (t : List Nat) (N M : Nat) (A1 A2 : Option Addr) (c1 c2 : Nat) (w : World) (ht : t.length ≤ 140737488355328 ∧ ∀ x ∈ t, x < 256) (eR : Jq.textJ (t.map Mq.lowB) = R) :
    Calls Tryd.prog 32 #[.int .i64 6, jv 3 b n (strOf t) (.slice A1 N c1) (.slice A2 M c2)] w (ValE ok R w) := by
  obtain ⟨W, eW⟩ : ∃ W, W = (w.alloc (box6 3 b n t N M A1 c1 A2 c2)).alloc zobj := ⟨_, rfl⟩
  have hbW : Below w.heap.size w W := by rw [eW]; exact below_new2 _ _ _
  have hl0 : Lies W (w.heap.size + 1) 27 zero6 := by rw [eW]; exact Lies.new_ (by simp)
  have HBW := Lib.hid hbW
  have HL0 := Lib.hid hl0
  have HW := Lib.hid eW
  have HR := Lib.hid eR
  have hC := lowerM_any (strOf t) W (by rw [strOf_size]; exact ht.1)
  rw [numsOf_strOf ht.2, eW] at hC
  have HT : Hid ((t.map Mq.lowB).length ≤ 140737488355328 ∧ ∀ x ∈ t.map Mq.lowB, x < 256) := ⟨by rw [List.length_map]; exact ht.1, fun x hx => by
    obtain ⟨y, hy, rfl⟩ := List.mem_map.1 hx
    exact low_lt (ht.2 y hy)⟩
  clear ht
  go_enter Tryd.func32, Tryd.ntmps32
  go_wp2_with fail
  refine hC.mono ?_
  rintro e w1 ⟨hb1, rfl⟩
  clear hC
  rw [← HW.out] at hb1
  have hD := textMade_any (strOf (t.map Mq.lowB)) w1
  go_wp2_with fail
  refine hD.mono ?_
  rintro e wE ⟨rfl, hb2⟩
  clear hD
  have hbE := below_more hb1 hb2
  clear hb1 hb2
  have hbw := below_more HBW.out hbE
  have hlE := HL0.out.below hbE HL0.out.lt
  have HQ : Hid (ValE ok R w (.returned (jv 3 false 0 (strOf (t.map Mq.lowB)) nilS nilS)) (put6 wE (w.heap.size + 1) (.int .i64 3) (.bool false) (.int .i64 0) (.string (strOf (t.map Mq.lowB))) nilS nilS)) := valE_put (ok' := (fun _ => False)) (Nat.le_succ _) hbw (fun _ h => h.elim) (by rw [← HR.out]; exact isJ_text _ _ HT.out)
  have hlf : Lies (put6 wE (w.heap.size + 1) (.int .i64 3) (.bool false) (.int .i64 0) (.string (strOf (t.map Mq.lowB))) nilS nilS) (w.heap.size + 1) 27 [.int .i64 3, .bool false, .int .i64 0, .string (strOf (t.map Mq.lowB)), nilS, nilS] := hlE.put6
  obtain ⟨⟨q0, q1, q2, q3, q4, q5⟩, _⟩ := hlf.six
  obtain ⟨⟨r0, r1, r2, r3, r4, r5⟩, g0, g1, g2, g3, g4, g5⟩ := hlE.six
  clear hbE hbw hlE hlf hl0 hbW eW eR
  go_wp2
  exact bodyPost_ret (by simp [results, Tryd.results32, go_sem, q0, q1, q2, q3, q4, q5]) rfl HQ.out
set_option maxHeartbeats 1000000 in
set_option maxRecDepth 100000 in
theorem ofOne_head {ok : Nat → Prop} {R : Jq.J} (b : Bool) (n : Int) (t : List Nat) (N M : Nat) (A1 A2 : Option Addr) (c1 c2 : Nat) (w : World) (ht : t.length ≤ 140737488355328 ∧ ∀ x ∈ t, x < 256) (eR : Mq.headV t = R) :
    Calls Tryd.prog 32 #[.int .i64 8, jv 3 b n (strOf t) (.slice A1 N c1) (.slice A2 M c2)] w (ValE ok R w) := by
  obtain ⟨W, eW⟩ : ∃ W, W = (w.alloc (box6 3 b n t N M A1 c1 A2 c2)).alloc zobj := ⟨_, rfl⟩
  have hbW : Below w.heap.size w W := by rw [eW]; exact below_new2 _ _ _
  have hl0 : Lies W (w.heap.size + 1) 27 zero6 := by rw [eW]; exact Lies.new_ (by simp)
  have HBW := Lib.hid hbW
  have HL0 := Lib.hid hl0
  have HW := Lib.hid eW
  have HR := Lib.hid eR
  have hC := cutB_any 64 (strOf t) W (by rw [strOf_size]; exact ht.1)
  unfold CutEndB at hC
  rw [numsOf_strOf ht.2, eW] at hC
  have HT : Hid ((Uq.front 64 t).length ≤ 140737488355328 ∧ ∀ x ∈ (Uq.front 64 t), x < 256) := ⟨Nat.le_trans (Uq.front_le 64 t) ht.1, fun x hx => ht.2 x (Uq.front_mem hx)⟩
  clear ht
  rw [show (64 : UInt8).toNat = 64 from rfl] at hC
  obtain ⟨X, eX⟩ : ∃ X, strOf (Uq.front 64 t) = X := ⟨_, rfl⟩
  obtain ⟨Y, eY⟩ : ∃ Y, strOf (Uq.behind 64 t) = Y := ⟨_, rfl⟩
  obtain ⟨D, eD⟩ : ∃ D, decide ((Uq.front 64 t).length < t.length) = D := ⟨_, rfl⟩
  rw [eX, eY, eD] at hC
  have HX := Lib.hid eX
  have HD := Lib.hid eD
  clear eX eY eD
  go_enter Tryd.func32, Tryd.ntmps32
  go_wp2_with fail
  refine hC.mono ?_
  rintro e w1 ⟨rfl, hb1⟩
  clear hC
  rw [← HW.out] at hb1
  have hD := textIfM_any D X w1
  go_wp2_with fail
  refine hD.mono ?_
  rintro e wE ⟨rfl, hb2⟩
  clear hD
  have hbE := below_more hb1 hb2
  clear hb1 hb2
  cases D with
  | true =>
    rw [if_pos rfl]
    have hbw := below_more HBW.out hbE
    have hlE := HL0.out.below hbE HL0.out.lt
    have HQ : Hid (ValE ok R w (.returned (jv 3 false 0 X nilS nilS)) (put6 wE (w.heap.size + 1) (.int .i64 3) (.bool false) (.int .i64 0) (.string X) nilS nilS)) := valE_put (ok' := (fun _ => False)) (Nat.le_succ _) hbw (fun _ h => h.elim) (by rw [← HR.out]; exact (by unfold Mq.headV; rw [if_pos (of_decide_eq_true HD.out), ← HX.out]; exact isJ_text _ _ HT.out))
    have hlf : Lies (put6 wE (w.heap.size + 1) (.int .i64 3) (.bool false) (.int .i64 0) (.string X) nilS nilS) (w.heap.size + 1) 27 [.int .i64 3, .bool false, .int .i64 0, .string X, nilS, nilS] := hlE.put6
    obtain ⟨⟨q0, q1, q2, q3, q4, q5⟩, _⟩ := hlf.six
    obtain ⟨⟨r0, r1, r2, r3, r4, r5⟩, g0, g1, g2, g3, g4, g5⟩ := hlE.six
    clear hbE hbw hlE hlf hl0 hbW eW eR
    go_wp2
    exact bodyPost_ret (by simp [results, Tryd.results32, go_sem, q0, q1, q2, q3, q4, q5]) rfl HQ.out
  | false =>
    rw [if_neg Bool.false_ne_true]
    have hbw := below_more HBW.out hbE
    have hlE := HL0.out.below hbE HL0.out.lt
    have HQ : Hid (ValE ok R w (.returned (jv 0 false 0 ByteArray.empty nilS nilS)) (put6 wE (w.heap.size + 1) (.int .i64 0) (.bool false) (.int .i64 0) (.string ByteArray.empty) nilS nilS)) := valE_put (ok' := (fun _ => False)) (Nat.le_succ _) hbw (fun _ h => h.elim) (by rw [← HR.out]; exact (by unfold Mq.headV; rw [if_neg (of_decide_eq_false HD.out)]; exact isJ_null _ _))
    have hlf : Lies (put6 wE (w.heap.size + 1) (.int .i64 0) (.bool false) (.int .i64 0) (.string ByteArray.empty) nilS nilS) (w.heap.size + 1) 27 [.int .i64 0, .bool false, .int .i64 0, .string ByteArray.empty, nilS, nilS] := hlE.put6
    obtain ⟨⟨q0, q1, q2, q3, q4, q5⟩, _⟩ := hlf.six
    obtain ⟨⟨r0, r1, r2, r3, r4, r5⟩, g0, g1, g2, g3, g4, g5⟩ := hlE.six
    clear hbE hbw hlE hlf hl0 hbW eW eR
    go_wp2
    exact bodyPost_ret (by simp [results, Tryd.results32, go_sem, q0, q1, q2, q3, q4, q5]) rfl HQ.out
set_option maxHeartbeats 1000000 in
set_option maxRecDepth 100000 in
theorem ofOne_tail {ok : Nat → Prop} {R : Jq.J} (b : Bool) (n : Int) (t : List Nat) (N M : Nat) (A1 A2 : Option Addr) (c1 c2 : Nat) (w : World) (ht : t.length ≤ 140737488355328 ∧ ∀ x ∈ t, x < 256) (eR : Mq.tailV t = R) :
    Calls Tryd.prog 32 #[.int .i64 9, jv 3 b n (strOf t) (.slice A1 N c1) (.slice A2 M c2)] w (ValE ok R w) := by
  obtain ⟨W, eW⟩ : ∃ W, W = (w.alloc (box6 3 b n t N M A1 c1 A2 c2)).alloc zobj := ⟨_, rfl⟩
  have hbW : Below w.heap.size w W := by rw [eW]; exact below_new2 _ _ _
  have hl0 : Lies W (w.heap.size + 1) 27 zero6 := by rw [eW]; exact Lies.new_ (by simp)
  have HBW := Lib.hid hbW
  have HL0 := Lib.hid hl0
  have HW := Lib.hid eW
  have HR := Lib.hid eR
  have hC := cutB_any 64 (strOf t) W (by rw [strOf_size]; exact ht.1)
  unfold CutEndB at hC
  rw [numsOf_strOf ht.2, eW] at hC
  have HT : Hid ((Uq.behind 64 t).length ≤ 140737488355328 ∧ ∀ x ∈ (Uq.behind 64 t), x < 256) := ⟨Nat.le_trans (by unfold Uq.behind; rw [List.length_drop]; exact Nat.sub_le _ _) ht.1, fun x hx => ht.2 x (List.mem_of_mem_drop hx)⟩
  clear ht
  rw [show (64 : UInt8).toNat = 64 from rfl] at hC
  obtain ⟨X, eX⟩ : ∃ X, strOf (Uq.front 64 t) = X := ⟨_, rfl⟩
  obtain ⟨Y, eY⟩ : ∃ Y, strOf (Uq.behind 64 t) = Y := ⟨_, rfl⟩
  obtain ⟨D, eD⟩ : ∃ D, decide ((Uq.front 64 t).length < t.length) = D := ⟨_, rfl⟩
  rw [eX, eY, eD] at hC
  have HX := Lib.hid eY
  have HD := Lib.hid eD
  clear eX eY eD
  go_enter Tryd.func32, Tryd.ntmps32
  go_wp2_with fail
  refine hC.mono ?_
  rintro e w1 ⟨rfl, hb1⟩
  clear hC
  rw [← HW.out] at hb1
  have hD := textIfM_any D Y w1
  go_wp2_with fail
  refine hD.mono ?_
  rintro e wE ⟨rfl, hb2⟩
  clear hD
  have hbE := below_more hb1 hb2
  clear hb1 hb2
  cases D with
  | true =>
    rw [if_pos rfl]
    have hbw := below_more HBW.out hbE
    have hlE := HL0.out.below hbE HL0.out.lt
    have HQ : Hid (ValE ok R w (.returned (jv 3 false 0 Y nilS nilS)) (put6 wE (w.heap.size + 1) (.int .i64 3) (.bool false) (.int .i64 0) (.string Y) nilS nilS)) := valE_put (ok' := (fun _ => False)) (Nat.le_succ _) hbw (fun _ h => h.elim) (by rw [← HR.out]; exact (by unfold Mq.tailV; rw [if_pos (of_decide_eq_true HD.out), ← HX.out]; exact isJ_text _ _ HT.out))
    have hlf : Lies (put6 wE (w.heap.size + 1) (.int .i64 3) (.bool false) (.int .i64 0) (.string Y) nilS nilS) (w.heap.size + 1) 27 [.int .i64 3, .bool false, .int .i64 0, .string Y, nilS, nilS] := hlE.put6
    obtain ⟨⟨q0, q1, q2, q3, q4, q5⟩, _⟩ := hlf.six
    obtain ⟨⟨r0, r1, r2, r3, r4, r5⟩, g0, g1, g2, g3, g4, g5⟩ := hlE.six
    clear hbE hbw hlE hlf hl0 hbW eW eR
    go_wp2
    exact bodyPost_ret (by simp [results, Tryd.results32, go_sem, q0, q1, q2, q3, q4, q5]) rfl HQ.out
  | false =>
    rw [if_neg Bool.false_ne_true]
    have hbw := below_more HBW.out hbE
    have hlE := HL0.out.below hbE HL0.out.lt
    have HQ : Hid (ValE ok R w (.returned (jv 0 false 0 ByteArray.empty nilS nilS)) (put6 wE (w.heap.size + 1) (.int .i64 0) (.bool false) (.int .i64 0) (.string ByteArray.empty) nilS nilS)) := valE_put (ok' := (fun _ => False)) (Nat.le_succ _) hbw (fun _ h => h.elim) (by rw [← HR.out]; exact (by unfold Mq.tailV; rw [if_neg (of_decide_eq_false HD.out)]; exact isJ_null _ _))
    have hlf : Lies (put6 wE (w.heap.size + 1) (.int .i64 0) (.bool false) (.int .i64 0) (.string ByteArray.empty) nilS nilS) (w.heap.size + 1) 27 [.int .i64 0, .bool false, .int .i64 0, .string ByteArray.empty, nilS, nilS] := hlE.put6
    obtain ⟨⟨q0, q1, q2, q3, q4, q5⟩, _⟩ := hlf.six
    obtain ⟨⟨r0, r1, r2, r3, r4, r5⟩, g0, g1, g2, g3, g4, g5⟩ := hlE.six
    clear hbE hbw hlE hlf hl0 hbW eW eR
    go_wp2
    exact bodyPost_ret (by simp [results, Tryd.results32, go_sem, q0, q1, q2, q3, q4, q5]) rfl HQ.out
set_option maxHeartbeats 1000000 in
set_option maxRecDepth 100000 in
theorem ofOne_first {ok : Nat → Prop} {R : Jq.J} (b : Bool) (n : Int) (t : List Nat) (N M : Nat) (A1 A2 : Option Addr) (c1 c2 : Nat) (w : World) (l : List Jq.J) (hl : l.length = M) (hL : ListIs w ok (.slice A2 M c2) l) (eR : Mq.at_ l 0 = R) :
    Calls Tryd.prog 32 #[.int .i64 7, jv 4 b n (strOf t) (.slice A1 N c1) (.slice A2 M c2)] w (ValE ok R w) := by
  obtain ⟨W, eW⟩ : ∃ W, W = (w.alloc (box6 4 b n t N M A1 c1 A2 c2)).alloc zobj := ⟨_, rfl⟩
  have hbW : Below w.heap.size w W := by rw [eW]; exact below_new2 _ _ _
  have hl0 : Lies W (w.heap.size + 1) 27 zero6 := by rw [eW]; exact Lies.new_ (by simp)
  have HBW := Lib.hid hbW
  have HL0 := Lib.hid hl0
  have HW := Lib.hid eW
  have HR := Lib.hid eR
  have hC := atM_any l A2 M c2 0 W (hL.in_.on hbW) hl
  rw [eW] at hC
  clear hL hl
  go_enter Tryd.func32, Tryd.ntmps32
  go_wp2_with fail
  refine hC.mono ?_
  rintro e wE ⟨u, rfl, hJ, hbE⟩
  clear hC
  rw [← HW.out] at hbE
  obtain ⟨B1, d1, B2, d2, rfl⟩ := hJ.form
  have HJ := Lib.hid hJ
  rw [HR.out] at HJ
  rw [HR.out]
  clear hJ
  have hbw := below_more HBW.out hbE
  have hlE := HL0.out.below hbE HL0.out.lt
  have HQ : Hid (ValE ok R w (.returned (jv R.kind R.bool R.int (strOf R.text) (.slice B1 R.names.length d1) (.slice B2 R.list.length d2))) (put6 wE (w.heap.size + 1) (.int .i64 R.kind) (.bool R.bool) (.int .i64 R.int) (.string (strOf R.text)) (.slice B1 R.names.length d1) (.slice B2 R.list.length d2))) := valE_put (ok' := (fun b => ok b ∧ b < w.heap.size)) (Nat.le_succ _) hbw (fun b hb => ⟨hb.1, by have := hb.2; omega⟩) HJ.out
  have hlf : Lies (put6 wE (w.heap.size + 1) (.int .i64 R.kind) (.bool R.bool) (.int .i64 R.int) (.string (strOf R.text)) (.slice B1 R.names.length d1) (.slice B2 R.list.length d2)) (w.heap.size + 1) 27 [.int .i64 R.kind, .bool R.bool, .int .i64 R.int, .string (strOf R.text), (.slice B1 R.names.length d1), (.slice B2 R.list.length d2)] := hlE.put6
  obtain ⟨⟨q0, q1, q2, q3, q4, q5⟩, _⟩ := hlf.six
  obtain ⟨⟨r0, r1, r2, r3, r4, r5⟩, g0, g1, g2, g3, g4, g5⟩ := hlE.six
  clear hbE hbw hlE hlf hl0 hbW eW eR
  go_wp2
  exact bodyPost_ret (by simp [results, Tryd.results32, go_sem, q0, q1, q2, q3, q4, q5]) rfl HQ.out
set_option maxHeartbeats 1000000 in
set_option maxRecDepth 100000 in
theorem ofOne_not {ok : Nat → Prop} {R : Jq.J} (b : Bool) (n : Int) (t : List Nat) (N M : Nat) (A1 A2 : Option Addr) (c1 c2 : Nat) (w : World) (eR : Jq.boolJ (!b) = R) :
    Calls Tryd.prog 32 #[.int .i64 13, jv 1 b n (strOf t) (.slice A1 N c1) (.slice A2 M c2)] w (ValE ok R w) := by
  obtain ⟨W, eW⟩ : ∃ W, W = (w.alloc (box6 1 b n t N M A1 c1 A2 c2)).alloc zobj := ⟨_, rfl⟩
  have hbW : Below w.heap.size w W := by rw [eW]; exact below_new2 _ _ _
  have hl0 : Lies W (w.heap.size + 1) 27 zero6 := by rw [eW]; exact Lies.new_ (by simp)
  have HBW := Lib.hid hbW
  have HL0 := Lib.hid hl0
  have HW := Lib.hid eW
  have HR := Lib.hid eR
  have hC := truthM_any (!b) W
  rw [eW] at hC
  go_enter Tryd.func32, Tryd.ntmps32
  go_wp2_with fail
  refine hC.mono ?_
  rintro e wE ⟨rfl, hbE⟩
  clear hC
  rw [← HW.out] at hbE
  have hbw := below_more HBW.out hbE
  have hlE := HL0.out.below hbE HL0.out.lt
  have HQ : Hid (ValE ok R w (.returned (jv 1 (!b) 0 ByteArray.empty nilS nilS)) (put6 wE (w.heap.size + 1) (.int .i64 1) (.bool (!b)) (.int .i64 0) (.string ByteArray.empty) nilS nilS)) := valE_put (ok' := (fun _ => False)) (Nat.le_succ _) hbw (fun _ h => h.elim) (by rw [← HR.out]; exact isJ_bool _ _ _)
  have hlf : Lies (put6 wE (w.heap.size + 1) (.int .i64 1) (.bool (!b)) (.int .i64 0) (.string ByteArray.empty) nilS nilS) (w.heap.size + 1) 27 [.int .i64 1, .bool (!b), .int .i64 0, .string ByteArray.empty, nilS, nilS] := hlE.put6
  obtain ⟨⟨q0, q1, q2, q3, q4, q5⟩, _⟩ := hlf.six
  obtain ⟨⟨r0, r1, r2, r3, r4, r5⟩, g0, g1, g2, g3, g4, g5⟩ := hlE.six
  clear hbE hbw hlE hlf hl0 hbW eW eR
  go_wp2
  exact bodyPost_ret (by simp [results, Tryd.results32, go_sem, q0, q1, q2, q3, q4, q5]) rfl HQ.out
set_option maxHeartbeats 1000000 in
set_option maxRecDepth 100000 in
theorem ofOne_none {ok : Nat → Prop} (op k : Int) (b : Bool) (n : Int) (t : List Nat) (N M : Nat) (A1 A2 : Option Addr) (c1 c2 : Nat) (w : World) (h6 : ¬ (op = 6 ∧ k = 3)) (h8 : ¬ (op = 8 ∧ k = 3)) (h9 : ¬ (op = 9 ∧ k = 3)) (h7 : ¬ (op = 7 ∧ k = 4)) (h13 : ¬ (op = 13 ∧ k = 1)) :
    Calls Tryd.prog 32 #[.int .i64 op, jv k b n (strOf t) (.slice A1 N c1) (.slice A2 M c2)] w (ValE ok Jq.nullJ w) := by
  have hb : ∀ o o', Below w.heap.size w ((w.alloc o).alloc o') := fun o o' => below_new2 _ _ _
  have HQ : Hid (∀ o o', ValE ok Jq.nullJ w (.returned (jv 0 false 0 ByteArray.empty nilS nilS)) ((w.alloc o).alloc o')) := fun o o' => ⟨_, rfl, isJ_null _ _, hb o o'⟩
  clear hb
  obtain ⟨R, eR⟩ : ∃ R, Jq.nullJ = R := ⟨_, rfl⟩
  rw [eR] at HQ ⊢
  clear eR
  rcases Decidable.em (op = 6) with e | p6
  · subst e
    have hk : ¬ k = 3 := fun g => h6 ⟨rfl, g⟩
    clear h6 h8 h9 h7 h13
    go_enter Tryd.func32, Tryd.ntmps32
    go_wp2
    exact bodyPost_ret (by simp [results, Tryd.results32, go_sem]; rfl) rfl (HQ.out _ _)
  rcases Decidable.em (op = 8) with e | p8
  · subst e
    have hk : ¬ k = 3 := fun g => h8 ⟨rfl, g⟩
    clear h6 h8 h9 h7 h13
    go_enter Tryd.func32, Tryd.ntmps32
    go_wp2
    exact bodyPost_ret (by simp [results, Tryd.results32, go_sem]; rfl) rfl (HQ.out _ _)
  rcases Decidable.em (op = 9) with e | p9
  · subst e
    have hk : ¬ k = 3 := fun g => h9 ⟨rfl, g⟩
    clear h6 h8 h9 h7 h13
    go_enter Tryd.func32, Tryd.ntmps32
    go_wp2
    exact bodyPost_ret (by simp [results, Tryd.results32, go_sem]; rfl) rfl (HQ.out _ _)
  rcases Decidable.em (op = 7) with e | p7
  · subst e
    have hk : ¬ k = 4 := fun g => h7 ⟨rfl, g⟩
    clear h6 h8 h9 h7 h13
    go_enter Tryd.func32, Tryd.ntmps32
    go_wp2
    exact bodyPost_ret (by simp [results, Tryd.results32, go_sem]; rfl) rfl (HQ.out _ _)
  rcases Decidable.em (op = 13) with e | p13
  · subst e
    have hk : ¬ k = 1 := fun g => h13 ⟨rfl, g⟩
    clear h6 h8 h9 h7 h13
    go_enter Tryd.func32, Tryd.ntmps32
    go_wp2
    exact bodyPost_ret (by simp [results, Tryd.results32, go_sem]; rfl) rfl (HQ.out _ _)
  clear h6 h8 h9 h7 h13
  go_enter Tryd.func32, Tryd.ntmps32
  go_wp2
  exact bodyPost_ret (by simp [results, Tryd.results32, go_sem]; rfl) rfl (HQ.out _ _)
theorem ofOneM_any {ok : Nat → Prop} (op : Int) (a : Jq.J) (A1 A2 : Option Addr) (c1 c2 : Nat) (w : World) (hJ : IsJ w ok (jv a.kind a.bool a.int (strOf a.text) (.slice A1 a.names.length c1) (.slice A2 a.list.length c2)) a) :
    Calls Tryd.prog 32 #[.int .i64 op, jv a.kind a.bool a.int (strOf a.text) (.slice A1 a.names.length c1) (.slice A2 a.list.length c2)] w (ValE ok (Mq.ofOne op a) w) := by
  obtain ⟨nv, lv, ev, _, _, ht, _, _, _, hL⟩ := hJ.parts
  have hL : ListIs w ok (.slice A2 a.list.length c2) a.list := by
    injection ev with ev
    simp at ev
    rw [ev.2]; exact hL
  clear ev hJ
  by_cases h6 : op = 6 ∧ a.kind = 3
  · have e : Mq.ofOne op a = Jq.textJ (a.text.map Mq.lowB) := by unfold Mq.ofOne; rw [if_pos h6]
    rw [e, h6.1, h6.2]
    exact ofOne_lower _ _ _ _ _ A1 A2 c1 c2 w ht rfl
  by_cases h8 : op = 8 ∧ a.kind = 3
  · have e : Mq.ofOne op a = Mq.headV a.text := by unfold Mq.ofOne; rw [if_neg h6, if_pos h8]
    rw [e, h8.1, h8.2]
    exact ofOne_head _ _ _ _ _ A1 A2 c1 c2 w ht rfl
  by_cases h9 : op = 9 ∧ a.kind = 3
  · have e : Mq.ofOne op a = Mq.tailV a.text := by unfold Mq.ofOne; rw [if_neg h6, if_neg h8, if_pos h9]
    rw [e, h9.1, h9.2]
    exact ofOne_tail _ _ _ _ _ A1 A2 c1 c2 w ht rfl
  by_cases h7 : op = 7 ∧ a.kind = 4
  · have e : Mq.ofOne op a = Mq.at_ a.list 0 := by unfold Mq.ofOne; rw [if_neg h6, if_neg h8, if_neg h9, if_pos h7]
    rw [e, h7.1, h7.2]
    exact ofOne_first _ _ _ _ _ A1 A2 c1 c2 w a.list rfl hL rfl
  by_cases h13 : op = 13 ∧ a.kind = 1
  · have e : Mq.ofOne op a = Jq.boolJ (!a.bool) := by unfold Mq.ofOne; rw [if_neg h6, if_neg h8, if_neg h9, if_neg h7, if_pos h13]
    rw [e, h13.1, h13.2]
    exact ofOne_not _ _ _ _ _ A1 A2 c1 c2 w rfl
  have e : Mq.ofOne op a = Jq.nullJ := by unfold Mq.ofOne; rw [if_neg h6, if_neg h8, if_neg h9, if_neg h7, if_neg h13]
  rw [e]
  exact ofOne_none op _ _ _ _ _ _ A1 A2 c1 c2 w h6 h8 h9 h7 h13
end Go.Proofs.YtnbaajdcakjlmaaDoor
