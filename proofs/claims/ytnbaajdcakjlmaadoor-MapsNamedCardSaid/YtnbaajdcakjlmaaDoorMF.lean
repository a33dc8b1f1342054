/-
  ofTwo: what an operator makes of two operands.
-/
import Derived.Test.YtnbaajdcakjlmaaDoorME
namespace Go.Proofs.YtnbaajdcakjlmaaDoor
open Go.RowKit

set_option maxHeartbeats 1000000 in
set_option maxRecDepth 100000 in
theorem ofTwo_and {ok : Nat → Prop} {R : Jq.J} (a b : Jq.J) (A1 A2 B1 B2 : Option Addr) (c1 c2 d1 d2 : Nat) (w : World) (eR : Jq.boolJ (Mq.isTrue a && Mq.isTrue b) = R) :
    Calls Tryd.prog 34 #[.int .i64 14, jv a.kind a.bool a.int (strOf a.text) (.slice A1 a.names.length c1) (.slice A2 a.list.length c2), jv b.kind b.bool b.int (strOf b.text) (.slice B1 b.names.length d1) (.slice B2 b.list.length d2)] w (ValE ok R w) := by
  obtain ⟨W, eW⟩ : ∃ W, W = ((w.alloc (box6 a.kind a.bool a.int a.text a.names.length a.list.length A1 c1 A2 c2)).alloc (box6 b.kind b.bool b.int b.text b.names.length b.list.length B1 d1 B2 d2)).alloc zobj := ⟨_, rfl⟩
  have hbW : Below w.heap.size w W := by rw [eW]; exact (below_new2 _ _ _).alloc (by simp; omega) _
  have hl0 : Lies W (w.heap.size + 2) 27 zero6 := by rw [eW]; exact Lies.new_ (by simp)
  have hlb : Lies W (w.heap.size + 1) 27 [.int .i64 b.kind, .bool b.bool, .int .i64 b.int, .string (strOf b.text), .slice B1 b.names.length d1, .slice B2 b.list.length d2] := by rw [eW]; exact (Lies.new_ (by simp)).alloc _
  have hla : Lies W w.heap.size 27 [.int .i64 a.kind, .bool a.bool, .int .i64 a.int, .string (strOf a.text), .slice A1 a.names.length c1, .slice A2 a.list.length c2] := by rw [eW]; exact ((Lies.new_ rfl).alloc _).alloc _
  have HBW := Lib.hid hbW
  have HL0 := Lib.hid hl0
  have HLA := Lib.hid hla
  have HLB := Lib.hid hlb
  have HW := Lib.hid eW
  have hC := isTrueM_any a A1 A2 c1 c2 W
  obtain ⟨K1, e1⟩ : ∃ K1, Mq.isTrue a = K1 := ⟨_, rfl⟩
  obtain ⟨K2, e2⟩ : ∃ K2, Mq.isTrue b = K2 := ⟨_, rfl⟩
  rw [e1, e2] at eR
  have HR := Lib.hid eR
  rw [e1, eW] at hC
  have H2 := Lib.hid e2
  clear e1 e2 eR
  go_enter Tryd.func34, Tryd.ntmps34
  go_wp2_with fail
  refine hC.mono ?_
  rintro e w1 ⟨hb1, rfl⟩
  clear hC
  rw [← HW.out] at hb1
  cases K1 with
  | true =>
    have hD := isTrueM_any b B1 B2 d1 d2 w1
    rw [H2.out] at hD
    obtain ⟨⟨s0, s1, s2, s3, s4, s5⟩, _⟩ := (HLB.out.below hb1 HLB.out.lt).six
    go_wp2_with fail
    refine hD.mono ?_
    rintro e w3 ⟨hb3, rfl⟩
    clear hD s0 s1 s2 s3 s4 s5
    have hb1 := below_more hb1 hb3
    clear hb3
    have hD := truthM_any K2 w3
    go_wp2_with fail
    refine hD.mono ?_
    rintro e wE ⟨rfl, hb2⟩
    clear hD
    have hbE := below_more hb1 hb2
    clear hb1 hb2
    have hbw := below_more HBW.out hbE
    have hlE := HL0.out.below hbE HL0.out.lt
    have HQ : Hid (ValE ok R w (.returned (jv 1 K2 0 ByteArray.empty nilS nilS)) (put6 wE (w.heap.size + 2) (.int .i64 1) (.bool K2) (.int .i64 0) (.string ByteArray.empty) nilS nilS)) := valE_put (ok' := (fun _ => False)) (Nat.le_add_right _ 2) hbw (fun _ h => h.elim) (by rw [← HR.out]; exact (by cases K2 <;> exact isJ_bool _ _ _))
    have hlf : Lies (put6 wE (w.heap.size + 2) (.int .i64 1) (.bool K2) (.int .i64 0) (.string ByteArray.empty) nilS nilS) (w.heap.size + 2) 27 [.int .i64 1, .bool K2, .int .i64 0, .string ByteArray.empty, nilS, nilS] := hlE.put6
    obtain ⟨⟨q0, q1, q2, q3, q4, q5⟩, _⟩ := hlf.six
    obtain ⟨⟨r0, r1, r2, r3, r4, r5⟩, g0, g1, g2, g3, g4, g5⟩ := hlE.six
    clear hbE hbw hlE hlf hl0 hla hlb hbW eW
    go_wp2
    exact bodyPost_ret (by simp [results, Tryd.results34, go_sem, q0, q1, q2, q3, q4, q5]) rfl HQ.out
  | false =>
    have hD := truthM_any false w1
    go_wp2_with fail
    refine hD.mono ?_
    rintro e wE ⟨rfl, hb2⟩
    clear hD
    have hbE := below_more hb1 hb2
    clear hb1 hb2
    have hbw := below_more HBW.out hbE
    have hlE := HL0.out.below hbE HL0.out.lt
    have HQ : Hid (ValE ok R w (.returned (jv 1 false 0 ByteArray.empty nilS nilS)) (put6 wE (w.heap.size + 2) (.int .i64 1) (.bool false) (.int .i64 0) (.string ByteArray.empty) nilS nilS)) := valE_put (ok' := (fun _ => False)) (Nat.le_add_right _ 2) hbw (fun _ h => h.elim) (by rw [← HR.out]; exact (by cases K2 <;> exact isJ_bool _ _ _))
    have hlf : Lies (put6 wE (w.heap.size + 2) (.int .i64 1) (.bool false) (.int .i64 0) (.string ByteArray.empty) nilS nilS) (w.heap.size + 2) 27 [.int .i64 1, .bool false, .int .i64 0, .string ByteArray.empty, nilS, nilS] := hlE.put6
    obtain ⟨⟨q0, q1, q2, q3, q4, q5⟩, _⟩ := hlf.six
    obtain ⟨⟨r0, r1, r2, r3, r4, r5⟩, g0, g1, g2, g3, g4, g5⟩ := hlE.six
    clear hbE hbw hlE hlf hl0 hla hlb hbW eW
    go_wp2
    exact bodyPost_ret (by simp [results, Tryd.results34, go_sem, q0, q1, q2, q3, q4, q5]) rfl HQ.out
set_option maxHeartbeats 1000000 in
set_option maxRecDepth 100000 in
theorem ofTwo_or {ok : Nat → Prop} {R : Jq.J} (a b : Jq.J) (A1 A2 B1 B2 : Option Addr) (c1 c2 d1 d2 : Nat) (w : World) (eR : Jq.boolJ (Mq.isTrue a || Mq.isTrue b) = R) :
    Calls Tryd.prog 34 #[.int .i64 15, jv a.kind a.bool a.int (strOf a.text) (.slice A1 a.names.length c1) (.slice A2 a.list.length c2), jv b.kind b.bool b.int (strOf b.text) (.slice B1 b.names.length d1) (.slice B2 b.list.length d2)] w (ValE ok R w) := by
  obtain ⟨W, eW⟩ : ∃ W, W = ((w.alloc (box6 a.kind a.bool a.int a.text a.names.length a.list.length A1 c1 A2 c2)).alloc (box6 b.kind b.bool b.int b.text b.names.length b.list.length B1 d1 B2 d2)).alloc zobj := ⟨_, rfl⟩
  have hbW : Below w.heap.size w W := by rw [eW]; exact (below_new2 _ _ _).alloc (by simp; omega) _
  have hl0 : Lies W (w.heap.size + 2) 27 zero6 := by rw [eW]; exact Lies.new_ (by simp)
  have hlb : Lies W (w.heap.size + 1) 27 [.int .i64 b.kind, .bool b.bool, .int .i64 b.int, .string (strOf b.text), .slice B1 b.names.length d1, .slice B2 b.list.length d2] := by rw [eW]; exact (Lies.new_ (by simp)).alloc _
  have hla : Lies W w.heap.size 27 [.int .i64 a.kind, .bool a.bool, .int .i64 a.int, .string (strOf a.text), .slice A1 a.names.length c1, .slice A2 a.list.length c2] := by rw [eW]; exact ((Lies.new_ rfl).alloc _).alloc _
  have HBW := Lib.hid hbW
  have HL0 := Lib.hid hl0
  have HLA := Lib.hid hla
  have HLB := Lib.hid hlb
  have HW := Lib.hid eW
  have hC := isTrueM_any a A1 A2 c1 c2 W
  obtain ⟨K1, e1⟩ : ∃ K1, Mq.isTrue a = K1 := ⟨_, rfl⟩
  obtain ⟨K2, e2⟩ : ∃ K2, Mq.isTrue b = K2 := ⟨_, rfl⟩
  rw [e1, e2] at eR
  have HR := Lib.hid eR
  rw [e1, eW] at hC
  have H2 := Lib.hid e2
  clear e1 e2 eR
  go_enter Tryd.func34, Tryd.ntmps34
  go_wp2_with fail
  refine hC.mono ?_
  rintro e w1 ⟨hb1, rfl⟩
  clear hC
  rw [← HW.out] at hb1
  cases K1 with
  | false =>
    have hD := isTrueM_any b B1 B2 d1 d2 w1
    rw [H2.out] at hD
    obtain ⟨⟨s0, s1, s2, s3, s4, s5⟩, _⟩ := (HLB.out.below hb1 HLB.out.lt).six
    go_wp2_with fail
    refine hD.mono ?_
    rintro e w3 ⟨hb3, rfl⟩
    clear hD s0 s1 s2 s3 s4 s5
    have hb1 := below_more hb1 hb3
    clear hb3
    have hD := truthM_any K2 w3
    go_wp2_with fail
    refine hD.mono ?_
    rintro e wE ⟨rfl, hb2⟩
    clear hD
    have hbE := below_more hb1 hb2
    clear hb1 hb2
    have hbw := below_more HBW.out hbE
    have hlE := HL0.out.below hbE HL0.out.lt
    have HQ : Hid (ValE ok R w (.returned (jv 1 K2 0 ByteArray.empty nilS nilS)) (put6 wE (w.heap.size + 2) (.int .i64 1) (.bool K2) (.int .i64 0) (.string ByteArray.empty) nilS nilS)) := valE_put (ok' := (fun _ => False)) (Nat.le_add_right _ 2) hbw (fun _ h => h.elim) (by rw [← HR.out]; exact (by cases K2 <;> exact isJ_bool _ _ _))
    have hlf : Lies (put6 wE (w.heap.size + 2) (.int .i64 1) (.bool K2) (.int .i64 0) (.string ByteArray.empty) nilS nilS) (w.heap.size + 2) 27 [.int .i64 1, .bool K2, .int .i64 0, .string ByteArray.empty, nilS, nilS] := hlE.put6
    obtain ⟨⟨q0, q1, q2, q3, q4, q5⟩, _⟩ := hlf.six
    obtain ⟨⟨r0, r1, r2, r3, r4, r5⟩, g0, g1, g2, g3, g4, g5⟩ := hlE.six
    clear hbE hbw hlE hlf hl0 hla hlb hbW eW
    go_wp2
    exact bodyPost_ret (by simp [results, Tryd.results34, go_sem, q0, q1, q2, q3, q4, q5]) rfl HQ.out
  | true =>
    have hD := truthM_any true w1
    go_wp2_with fail
    refine hD.mono ?_
    rintro e wE ⟨rfl, hb2⟩
    clear hD
    have hbE := below_more hb1 hb2
    clear hb1 hb2
    have hbw := below_more HBW.out hbE
    have hlE := HL0.out.below hbE HL0.out.lt
    have HQ : Hid (ValE ok R w (.returned (jv 1 true 0 ByteArray.empty nilS nilS)) (put6 wE (w.heap.size + 2) (.int .i64 1) (.bool true) (.int .i64 0) (.string ByteArray.empty) nilS nilS)) := valE_put (ok' := (fun _ => False)) (Nat.le_add_right _ 2) hbw (fun _ h => h.elim) (by rw [← HR.out]; exact (by cases K2 <;> exact isJ_bool _ _ _))
    have hlf : Lies (put6 wE (w.heap.size + 2) (.int .i64 1) (.bool true) (.int .i64 0) (.string ByteArray.empty) nilS nilS) (w.heap.size + 2) 27 [.int .i64 1, .bool true, .int .i64 0, .string ByteArray.empty, nilS, nilS] := hlE.put6
    obtain ⟨⟨q0, q1, q2, q3, q4, q5⟩, _⟩ := hlf.six
    obtain ⟨⟨r0, r1, r2, r3, r4, r5⟩, g0, g1, g2, g3, g4, g5⟩ := hlE.six
    clear hbE hbw hlE hlf hl0 hla hlb hbW eW
    go_wp2
    exact bodyPost_ret (by simp [results, Tryd.results34, go_sem, q0, q1, q2, q3, q4, q5]) rfl HQ.out
set_option maxHeartbeats 1000000 in
set_option maxRecDepth 100000 in
theorem ofTwo_else {ok : Nat → Prop} {R : Jq.J} (a b : Jq.J) (A1 A2 B1 B2 : Option Addr) (c1 c2 d1 d2 : Nat) (w : World) (hJA : IsJ w ok (jv a.kind a.bool a.int (strOf a.text) (.slice A1 a.names.length c1) (.slice A2 a.list.length c2)) a) (hJB : IsJ w ok (jv b.kind b.bool b.int (strOf b.text) (.slice B1 b.names.length d1) (.slice B2 b.list.length d2)) b) (eR : (if a.kind = 0 then b else a) = R) :
    Calls Tryd.prog 34 #[.int .i64 16, jv a.kind a.bool a.int (strOf a.text) (.slice A1 a.names.length c1) (.slice A2 a.list.length c2), jv b.kind b.bool b.int (strOf b.text) (.slice B1 b.names.length d1) (.slice B2 b.list.length d2)] w (ValE ok R w) := by
  obtain ⟨W, eW⟩ : ∃ W, W = ((w.alloc (box6 a.kind a.bool a.int a.text a.names.length a.list.length A1 c1 A2 c2)).alloc (box6 b.kind b.bool b.int b.text b.names.length b.list.length B1 d1 B2 d2)).alloc zobj := ⟨_, rfl⟩
  have hbW : Below w.heap.size w W := by rw [eW]; exact (below_new2 _ _ _).alloc (by simp; omega) _
  have hl0 : Lies W (w.heap.size + 2) 27 zero6 := by rw [eW]; exact Lies.new_ (by simp)
  have hlb : Lies W (w.heap.size + 1) 27 [.int .i64 b.kind, .bool b.bool, .int .i64 b.int, .string (strOf b.text), .slice B1 b.names.length d1, .slice B2 b.list.length d2] := by rw [eW]; exact (Lies.new_ (by simp)).alloc _
  have hla : Lies W w.heap.size 27 [.int .i64 a.kind, .bool a.bool, .int .i64 a.int, .string (strOf a.text), .slice A1 a.names.length c1, .slice A2 a.list.length c2] := by rw [eW]; exact ((Lies.new_ rfl).alloc _).alloc _
  have HBW := Lib.hid hbW
  have HL0 := Lib.hid hl0
  have HLA := Lib.hid hla
  have HLB := Lib.hid hlb
  have HW := Lib.hid eW
  have HR := Lib.hid eR
  have hC := isNoneM_any a A1 A2 c1 c2 W
  obtain ⟨K1, e1⟩ : ∃ K1, decide (a.kind = 0) = K1 := ⟨_, rfl⟩
  have H1 := Lib.hid e1
  rw [e1, eW] at hC
  have HJA := Lib.hid hJA
  have HJB := Lib.hid hJB
  clear e1 hJA hJB
  go_enter Tryd.func34, Tryd.ntmps34
  go_wp2_with fail
  refine hC.mono ?_
  rintro e wE ⟨hbE, rfl⟩
  clear hC
  rw [← HW.out] at hbE
  cases K1 with
  | true =>
    have hbw := below_more HBW.out hbE
    have hlE := HL0.out.below hbE HL0.out.lt
    obtain ⟨⟨s0, s1, s2, s3, s4, s5⟩, _⟩ := (HLB.out.below hbE HLB.out.lt).six
    have HQ : Hid (ValE ok R w (.returned (jv b.kind b.bool b.int (strOf b.text) (.slice B1 b.names.length d1) (.slice B2 b.list.length d2))) (put6 wE (w.heap.size + 2) (.int .i64 b.kind) (.bool b.bool) (.int .i64 b.int) (.string (strOf b.text)) (.slice B1 b.names.length d1) (.slice B2 b.list.length d2))) := valE_put (ok' := (fun b => ok b ∧ b < w.heap.size)) (Nat.le_add_right _ 2) hbw (fun b hb => ⟨hb.1, by have := hb.2; omega⟩) (by rw [← HR.out]; exact (by rw [if_pos (of_decide_eq_true H1.out)]; exact HJB.out.in_.on hbw))
    have hlf : Lies (put6 wE (w.heap.size + 2) (.int .i64 b.kind) (.bool b.bool) (.int .i64 b.int) (.string (strOf b.text)) (.slice B1 b.names.length d1) (.slice B2 b.list.length d2)) (w.heap.size + 2) 27 [.int .i64 b.kind, .bool b.bool, .int .i64 b.int, .string (strOf b.text), (.slice B1 b.names.length d1), (.slice B2 b.list.length d2)] := hlE.put6
    obtain ⟨⟨q0, q1, q2, q3, q4, q5⟩, _⟩ := hlf.six
    obtain ⟨⟨r0, r1, r2, r3, r4, r5⟩, g0, g1, g2, g3, g4, g5⟩ := hlE.six
    clear hbE hbw hlE hlf hl0 hla hlb hbW eW eR
    go_wp2
    exact bodyPost_ret (by simp [results, Tryd.results34, go_sem, q0, q1, q2, q3, q4, q5]) rfl HQ.out
  | false =>
    have hbw := below_more HBW.out hbE
    have hlE := HL0.out.below hbE HL0.out.lt
    obtain ⟨⟨s0, s1, s2, s3, s4, s5⟩, _⟩ := (HLA.out.below hbE HLA.out.lt).six
    have HQ : Hid (ValE ok R w (.returned (jv a.kind a.bool a.int (strOf a.text) (.slice A1 a.names.length c1) (.slice A2 a.list.length c2))) (put6 wE (w.heap.size + 2) (.int .i64 a.kind) (.bool a.bool) (.int .i64 a.int) (.string (strOf a.text)) (.slice A1 a.names.length c1) (.slice A2 a.list.length c2))) := valE_put (ok' := (fun b => ok b ∧ b < w.heap.size)) (Nat.le_add_right _ 2) hbw (fun b hb => ⟨hb.1, by have := hb.2; omega⟩) (by rw [← HR.out]; exact (by rw [if_neg (of_decide_eq_false H1.out)]; exact HJA.out.in_.on hbw))
    have hlf : Lies (put6 wE (w.heap.size + 2) (.int .i64 a.kind) (.bool a.bool) (.int .i64 a.int) (.string (strOf a.text)) (.slice A1 a.names.length c1) (.slice A2 a.list.length c2)) (w.heap.size + 2) 27 [.int .i64 a.kind, .bool a.bool, .int .i64 a.int, .string (strOf a.text), (.slice A1 a.names.length c1), (.slice A2 a.list.length c2)] := hlE.put6
    obtain ⟨⟨q0, q1, q2, q3, q4, q5⟩, _⟩ := hlf.six
    obtain ⟨⟨r0, r1, r2, r3, r4, r5⟩, g0, g1, g2, g3, g4, g5⟩ := hlE.six
    clear hbE hbw hlE hlf hl0 hla hlb hbW eW eR
    go_wp2
    exact bodyPost_ret (by simp [results, Tryd.results34, go_sem, q0, q1, q2, q3, q4, q5]) rfl HQ.out
set_option maxHeartbeats 1000000 in
set_option maxRecDepth 100000 in
theorem ofTwo_join {ok : Nat → Prop} {R : Jq.J} (b1 : Bool) (n1 : Int) (t1 : List Nat) (N1 M1 : Nat) (A1 A2 : Option Addr) (c1 c2 : Nat) (b2 : Bool) (n2 : Int) (t2 : List Nat) (N2 M2 : Nat) (B1 B2 : Option Addr) (d1 d2 : Nat) (w : World) (ht1 : t1.length ≤ 140737488355328 ∧ ∀ x ∈ t1, x < 256) (ht2 : t2.length ≤ 140737488355328 ∧ ∀ x ∈ t2, x < 256) (eR : Mq.joinV t1 t2 = R) :
    Calls Tryd.prog 34 #[.int .i64 5, jv 3 b1 n1 (strOf t1) (.slice A1 N1 c1) (.slice A2 M1 c2), jv 3 b2 n2 (strOf t2) (.slice B1 N2 d1) (.slice B2 M2 d2)] w (ValE ok R w) := by
  obtain ⟨W, eW⟩ : ∃ W, W = ((w.alloc (box6 3 b1 n1 t1 N1 M1 A1 c1 A2 c2)).alloc (box6 3 b2 n2 t2 N2 M2 B1 d1 B2 d2)).alloc zobj := ⟨_, rfl⟩
  have hbW : Below w.heap.size w W := by rw [eW]; exact (below_new2 _ _ _).alloc (by simp; omega) _
  have hl0 : Lies W (w.heap.size + 2) 27 zero6 := by rw [eW]; exact Lies.new_ (by simp)
  have hlb : Lies W (w.heap.size + 1) 27 [.int .i64 3, .bool b2, .int .i64 n2, .string (strOf t2), .slice B1 N2 d1, .slice B2 M2 d2] := by rw [eW]; exact (Lies.new_ (by simp)).alloc _
  have hla : Lies W w.heap.size 27 [.int .i64 3, .bool b1, .int .i64 n1, .string (strOf t1), .slice A1 N1 c1, .slice A2 M1 c2] := by rw [eW]; exact ((Lies.new_ rfl).alloc _).alloc _
  have HBW := Lib.hid hbW
  have HL0 := Lib.hid hl0
  have HLA := Lib.hid hla
  have HLB := Lib.hid hlb
  have HW := Lib.hid eW
  have HR := Lib.hid eR
  have hC := joinM_any (strOf t1) (strOf t2) W (by rw [strOf_size]; exact ht1.1) (by rw [strOf_size]; exact ht2.1)
  rw [strOf_size, strOf_size, strOf_append, eW] at hC
  have HT : Hid (t1.length + t2.length ≤ 4096 → (t1 ++ t2).length ≤ 140737488355328 ∧ ∀ x ∈ t1 ++ t2, x < 256) := fun h => ⟨by rw [List.length_append]; omega, fun x hx => by
    rcases List.mem_append.1 hx with h | h
    · exact ht1.2 x h
    · exact ht2.2 x h⟩
  obtain ⟨X, eX⟩ : ∃ X, strOf (t1 ++ t2) = X := ⟨_, rfl⟩
  rw [eX] at hC
  have HX := Lib.hid eX
  clear ht1 ht2 eX
  by_cases hle : t1.length + t2.length ≤ 4096
  · rw [if_pos hle] at hC
    have HT2 := Lib.hid (HT.out hle)
    have HLE := Lib.hid hle
    clear hle
    go_enter Tryd.func34, Tryd.ntmps34
    go_wp2_with fail
    refine hC.mono ?_
    rintro e wE ⟨rfl, hbE⟩
    clear hC
    rw [← HW.out] at hbE
    have hbw := below_more HBW.out hbE
    have hlE := HL0.out.below hbE HL0.out.lt
    have HQ : Hid (ValE ok R w (.returned (jv 3 false 0 X nilS nilS)) (put6 wE (w.heap.size + 2) (.int .i64 3) (.bool false) (.int .i64 0) (.string X) nilS nilS)) := valE_put (ok' := (fun _ => False)) (Nat.le_add_right _ 2) hbw (fun _ h => h.elim) (by rw [← HR.out]; exact (by unfold Mq.joinV; rw [if_pos HLE.out, ← HX.out]; exact isJ_text _ _ HT2.out))
    have hlf : Lies (put6 wE (w.heap.size + 2) (.int .i64 3) (.bool false) (.int .i64 0) (.string X) nilS nilS) (w.heap.size + 2) 27 [.int .i64 3, .bool false, .int .i64 0, .string X, nilS, nilS] := hlE.put6
    obtain ⟨⟨q0, q1, q2, q3, q4, q5⟩, _⟩ := hlf.six
    obtain ⟨⟨r0, r1, r2, r3, r4, r5⟩, g0, g1, g2, g3, g4, g5⟩ := hlE.six
    clear hbE hbw hlE hlf hl0 hla hlb hbW eW eR
    go_wp2
    exact bodyPost_ret (by simp [results, Tryd.results34, go_sem, q0, q1, q2, q3, q4, q5]) rfl HQ.out
  · rw [if_neg hle] at hC
    have HLE := Lib.hid hle
    clear hle
    go_enter Tryd.func34, Tryd.ntmps34
    go_wp2_with fail
    refine hC.mono ?_
    rintro e wE ⟨rfl, hbE⟩
    clear hC
    rw [← HW.out] at hbE
    have hbw := below_more HBW.out hbE
    have hlE := HL0.out.below hbE HL0.out.lt
    have HQ : Hid (ValE ok R w (.returned (jv 0 false 0 ByteArray.empty nilS nilS)) (put6 wE (w.heap.size + 2) (.int .i64 0) (.bool false) (.int .i64 0) (.string ByteArray.empty) nilS nilS)) := valE_put (ok' := (fun _ => False)) (Nat.le_add_right _ 2) hbw (fun _ h => h.elim) (by rw [← HR.out]; exact (by unfold Mq.joinV; rw [if_neg HLE.out]; exact isJ_null _ _))
    have hlf : Lies (put6 wE (w.heap.size + 2) (.int .i64 0) (.bool false) (.int .i64 0) (.string ByteArray.empty) nilS nilS) (w.heap.size + 2) 27 [.int .i64 0, .bool false, .int .i64 0, .string ByteArray.empty, nilS, nilS] := hlE.put6
    obtain ⟨⟨q0, q1, q2, q3, q4, q5⟩, _⟩ := hlf.six
    obtain ⟨⟨r0, r1, r2, r3, r4, r5⟩, g0, g1, g2, g3, g4, g5⟩ := hlE.six
    clear hbE hbw hlE hlf hl0 hla hlb hbW eW eR
    go_wp2
    exact bodyPost_ret (by simp [results, Tryd.results34, go_sem, q0, q1, q2, q3, q4, q5]) rfl HQ.out
set_option maxHeartbeats 1000000 in
set_option maxRecDepth 100000 in
theorem ofTwo_starts {ok : Nat → Prop} {R : Jq.J} (b1 : Bool) (n1 : Int) (t1 : List Nat) (N1 M1 : Nat) (A1 A2 : Option Addr) (c1 c2 : Nat) (b2 : Bool) (n2 : Int) (t2 : List Nat) (N2 M2 : Nat) (B1 B2 : Option Addr) (d1 d2 : Nat) (w : World) (ht1 : t1.length ≤ 140737488355328 ∧ ∀ x ∈ t1, x < 256) (ht2 : t2.length ≤ 140737488355328 ∧ ∀ x ∈ t2, x < 256) (eR : Jq.boolJ (decide (t1.take t2.length = t2)) = R) :
    Calls Tryd.prog 34 #[.int .i64 17, jv 3 b1 n1 (strOf t1) (.slice A1 N1 c1) (.slice A2 M1 c2), jv 3 b2 n2 (strOf t2) (.slice B1 N2 d1) (.slice B2 M2 d2)] w (ValE ok R w) := by
  obtain ⟨W, eW⟩ : ∃ W, W = ((w.alloc (box6 3 b1 n1 t1 N1 M1 A1 c1 A2 c2)).alloc (box6 3 b2 n2 t2 N2 M2 B1 d1 B2 d2)).alloc zobj := ⟨_, rfl⟩
  have hbW : Below w.heap.size w W := by rw [eW]; exact (below_new2 _ _ _).alloc (by simp; omega) _
  have hl0 : Lies W (w.heap.size + 2) 27 zero6 := by rw [eW]; exact Lies.new_ (by simp)
  have hlb : Lies W (w.heap.size + 1) 27 [.int .i64 3, .bool b2, .int .i64 n2, .string (strOf t2), .slice B1 N2 d1, .slice B2 M2 d2] := by rw [eW]; exact (Lies.new_ (by simp)).alloc _
  have hla : Lies W w.heap.size 27 [.int .i64 3, .bool b1, .int .i64 n1, .string (strOf t1), .slice A1 N1 c1, .slice A2 M1 c2] := by rw [eW]; exact ((Lies.new_ rfl).alloc _).alloc _
  have HBW := Lib.hid hbW
  have HL0 := Lib.hid hl0
  have HLA := Lib.hid hla
  have HLB := Lib.hid hlb
  have HW := Lib.hid eW
  have hC := hasPrefix_any (strOf t1) (strOf t2) W
  rw [numsOf_strOf ht1.2, numsOf_strOf ht2.2, eW] at hC
  obtain ⟨K, eK⟩ : ∃ K, decide (t1.take t2.length = t2) = K := ⟨_, rfl⟩
  rw [eK] at hC eR
  have HR := Lib.hid eR
  clear ht1 ht2 eK
  go_enter Tryd.func34, Tryd.ntmps34
  go_wp2_with fail
  refine hC.mono ?_
  rintro e w1 ⟨rfl, rfl⟩
  clear hC
  have hD := truthM_any K W
  rw [eW] at hD
  go_wp2_with fail
  refine hD.mono ?_
  rintro e wE ⟨rfl, hbE⟩
  clear hD
  rw [← HW.out] at hbE
  have hbw := below_more HBW.out hbE
  have hlE := HL0.out.below hbE HL0.out.lt
  have HQ : Hid (ValE ok R w (.returned (jv 1 K 0 ByteArray.empty nilS nilS)) (put6 wE (w.heap.size + 2) (.int .i64 1) (.bool K) (.int .i64 0) (.string ByteArray.empty) nilS nilS)) := valE_put (ok' := (fun _ => False)) (Nat.le_add_right _ 2) hbw (fun _ h => h.elim) (by rw [← HR.out]; exact isJ_bool _ _ _)
  have hlf : Lies (put6 wE (w.heap.size + 2) (.int .i64 1) (.bool K) (.int .i64 0) (.string ByteArray.empty) nilS nilS) (w.heap.size + 2) 27 [.int .i64 1, .bool K, .int .i64 0, .string ByteArray.empty, nilS, nilS] := hlE.put6
  obtain ⟨⟨q0, q1, q2, q3, q4, q5⟩, _⟩ := hlf.six
  obtain ⟨⟨r0, r1, r2, r3, r4, r5⟩, g0, g1, g2, g3, g4, g5⟩ := hlE.six
  clear hbE hbw hlE hlf hl0 hla hlb hbW eW eR
  go_wp2
  exact bodyPost_ret (by simp [results, Tryd.results34, go_sem, q0, q1, q2, q3, q4, q5]) rfl HQ.out
set_option maxHeartbeats 1000000 in
set_option maxRecDepth 100000 in
theorem ofTwo_less {ok : Nat → Prop} {R : Jq.J} (b1 : Bool) (n1 : Int) (t1 : List Nat) (N1 M1 : Nat) (A1 A2 : Option Addr) (c1 c2 : Nat) (b2 : Bool) (n2 : Int) (t2 : List Nat) (N2 M2 : Nat) (B1 B2 : Option Addr) (d1 d2 : Nat) (w : World) (eR : Jq.boolJ (decide (n1 < n2)) = R) :
    Calls Tryd.prog 34 #[.int .i64 11, jv 2 b1 n1 (strOf t1) (.slice A1 N1 c1) (.slice A2 M1 c2), jv 2 b2 n2 (strOf t2) (.slice B1 N2 d1) (.slice B2 M2 d2)] w (ValE ok R w) := by
  obtain ⟨W, eW⟩ : ∃ W, W = ((w.alloc (box6 2 b1 n1 t1 N1 M1 A1 c1 A2 c2)).alloc (box6 2 b2 n2 t2 N2 M2 B1 d1 B2 d2)).alloc zobj := ⟨_, rfl⟩
  have hbW : Below w.heap.size w W := by rw [eW]; exact (below_new2 _ _ _).alloc (by simp; omega) _
  have hl0 : Lies W (w.heap.size + 2) 27 zero6 := by rw [eW]; exact Lies.new_ (by simp)
  have hlb : Lies W (w.heap.size + 1) 27 [.int .i64 2, .bool b2, .int .i64 n2, .string (strOf t2), .slice B1 N2 d1, .slice B2 M2 d2] := by rw [eW]; exact (Lies.new_ (by simp)).alloc _
  have hla : Lies W w.heap.size 27 [.int .i64 2, .bool b1, .int .i64 n1, .string (strOf t1), .slice A1 N1 c1, .slice A2 M1 c2] := by rw [eW]; exact ((Lies.new_ rfl).alloc _).alloc _
  have HBW := Lib.hid hbW
  have HL0 := Lib.hid hl0
  have HLA := Lib.hid hla
  have HLB := Lib.hid hlb
  have HW := Lib.hid eW
  obtain ⟨K, eK⟩ : ∃ K, decide (n1 < n2) = K := ⟨_, rfl⟩
  rw [eK] at eR
  have HR := Lib.hid eR
  have hD := truthM_any K W
  rw [eW] at hD
  go_enter Tryd.func34, Tryd.ntmps34
  go_wp2_with fail
  refine hD.mono ?_
  rintro e wE ⟨rfl, hbE⟩
  clear hD eK
  rw [← HW.out] at hbE
  have hbw := below_more HBW.out hbE
  have hlE := HL0.out.below hbE HL0.out.lt
  have HQ : Hid (ValE ok R w (.returned (jv 1 K 0 ByteArray.empty nilS nilS)) (put6 wE (w.heap.size + 2) (.int .i64 1) (.bool K) (.int .i64 0) (.string ByteArray.empty) nilS nilS)) := valE_put (ok' := (fun _ => False)) (Nat.le_add_right _ 2) hbw (fun _ h => h.elim) (by rw [← HR.out]; exact isJ_bool _ _ _)
  have hlf : Lies (put6 wE (w.heap.size + 2) (.int .i64 1) (.bool K) (.int .i64 0) (.string ByteArray.empty) nilS nilS) (w.heap.size + 2) 27 [.int .i64 1, .bool K, .int .i64 0, .string ByteArray.empty, nilS, nilS] := hlE.put6
  obtain ⟨⟨q0, q1, q2, q3, q4, q5⟩, _⟩ := hlf.six
  obtain ⟨⟨r0, r1, r2, r3, r4, r5⟩, g0, g1, g2, g3, g4, g5⟩ := hlE.six
  clear hbE hbw hlE hlf hl0 hla hlb hbW eW eR
  go_wp2
  exact bodyPost_ret (by simp [results, Tryd.results34, go_sem, q0, q1, q2, q3, q4, q5]) rfl HQ.out
set_option maxHeartbeats 1000000 in
set_option maxRecDepth 100000 in
theorem ofTwo_in {ok : Nat → Prop} {R : Jq.J} (b1 : Bool) (n1 : Int) (t1 : List Nat) (N1 M1 : Nat) (A1 A2 : Option Addr) (c1 c2 : Nat) (b2 : Bool) (n2 : Int) (t2 : List Nat) (N2 M2 : Nat) (B1 B2 : Option Addr) (d1 d2 : Nat) (w : World) {ok' : Nat → Prop} (S : Mq.Same) (l : List Jq.J) (hl : l.length = M2) (hL : ListIs w ok (.slice B2 M2 d2) l) (ns : List (List Nat)) (la : List Jq.J) (hns : ns.length = N1) (hla' : la.length = M1) (hJ : IsJ w ok' (jv 3 b1 n1 (strOf t1) (.slice A1 ns.length c1) (.slice A2 la.length c2)) (Jq.J.mk 3 b1 n1 t1 ns la)) (eR : Jq.boolJ (l.any (S.1 (Jq.J.mk 3 b1 n1 t1 ns la))) = R) :
    Calls Tryd.prog 34 #[.int .i64 12, jv 3 b1 n1 (strOf t1) (.slice A1 N1 c1) (.slice A2 M1 c2), jv 4 b2 n2 (strOf t2) (.slice B1 N2 d1) (.slice B2 M2 d2)] w (ValE ok R w) := by
  obtain ⟨W, eW⟩ : ∃ W, W = ((w.alloc (box6 3 b1 n1 t1 N1 M1 A1 c1 A2 c2)).alloc (box6 4 b2 n2 t2 N2 M2 B1 d1 B2 d2)).alloc zobj := ⟨_, rfl⟩
  have hbW : Below w.heap.size w W := by rw [eW]; exact (below_new2 _ _ _).alloc (by simp; omega) _
  have hl0 : Lies W (w.heap.size + 2) 27 zero6 := by rw [eW]; exact Lies.new_ (by simp)
  have hlb : Lies W (w.heap.size + 1) 27 [.int .i64 4, .bool b2, .int .i64 n2, .string (strOf t2), .slice B1 N2 d1, .slice B2 M2 d2] := by rw [eW]; exact (Lies.new_ (by simp)).alloc _
  have hla : Lies W w.heap.size 27 [.int .i64 3, .bool b1, .int .i64 n1, .string (strOf t1), .slice A1 N1 c1, .slice A2 M1 c2] := by rw [eW]; exact ((Lies.new_ rfl).alloc _).alloc _
  have HBW := Lib.hid hbW
  have HL0 := Lib.hid hl0
  have HLA := Lib.hid hla
  have HLB := Lib.hid hlb
  have HW := Lib.hid eW
  obtain ⟨K, eK⟩ : ∃ K, l.any (S.1 (Jq.J.mk 3 b1 n1 t1 ns la)) = K := ⟨_, rfl⟩
  have hC := containsS_any S (Jq.J.mk 3 b1 n1 t1 ns la) A1 A2 c1 c2 w.heap.size l B2 M2 d2 W (hL.on hbW) hl ((show IsJ w ok' _ _ from hJ).on hbW) (by have h := hla; rw [← hns, ← hla'] at h; exact h)
  rw [eK] at eR hC
  have HR := Lib.hid eR
  rw [eW] at hC
  clear hL hl hJ hns hla' eK
  go_enter Tryd.func34, Tryd.ntmps34
  go_wp2_with fail
  refine hC.mono ?_
  rintro e w1 ⟨hb1, rfl⟩
  clear hC
  rw [← HW.out] at hb1
  have hD := truthM_any K w1
  go_wp2_with fail
  refine hD.mono ?_
  rintro e wE ⟨rfl, hb2⟩
  clear hD
  have hbE := below_more hb1 hb2
  clear hb1 hb2
  have hbw := below_more HBW.out hbE
  have hlE := HL0.out.below hbE HL0.out.lt
  have HQ : Hid (ValE ok R w (.returned (jv 1 K 0 ByteArray.empty nilS nilS)) (put6 wE (w.heap.size + 2) (.int .i64 1) (.bool K) (.int .i64 0) (.string ByteArray.empty) nilS nilS)) := valE_put (ok' := (fun _ => False)) (Nat.le_add_right _ 2) hbw (fun _ h => h.elim) (by rw [← HR.out]; exact isJ_bool _ _ _)
  have hlf : Lies (put6 wE (w.heap.size + 2) (.int .i64 1) (.bool K) (.int .i64 0) (.string ByteArray.empty) nilS nilS) (w.heap.size + 2) 27 [.int .i64 1, .bool K, .int .i64 0, .string ByteArray.empty, nilS, nilS] := hlE.put6
  obtain ⟨⟨q0, q1, q2, q3, q4, q5⟩, _⟩ := hlf.six
  obtain ⟨⟨r0, r1, r2, r3, r4, r5⟩, g0, g1, g2, g3, g4, g5⟩ := hlE.six
  clear hbE hbw hlE hlf hl0 hla hlb hbW eW eR
  go_wp2
  exact bodyPost_ret (by simp [results, Tryd.results34, go_sem, q0, q1, q2, q3, q4, q5]) rfl HQ.out
set_option maxHeartbeats 1000000 in
set_option maxRecDepth 100000 in
theorem ofTwo_equal3 {ok : Nat → Prop} {R : Jq.J} (b1 : Bool) (n1 : Int) (t1 : List Nat) (N1 M1 : Nat) (A1 A2 : Option Addr) (c1 c2 : Nat) (b2 : Bool) (n2 : Int) (t2 : List Nat) (N2 M2 : Nat) (B1 B2 : Option Addr) (d1 d2 : Nat) (w : World) {ok1 ok2 : Nat → Prop} (S : Mq.Same) (ns ns2 : List (List Nat)) (la lb : List Jq.J) (hN1 : ns.length = N1) (hM1 : la.length = M1) (hN2 : ns2.length = N2) (hM2 : lb.length = M2) (hJ : IsJ w ok1 (jv 3 b1 n1 (strOf t1) (.slice A1 ns.length c1) (.slice A2 la.length c2)) (Jq.J.mk 3 b1 n1 t1 ns la)) (hJ2 : IsJ w ok2 (jv 3 b2 n2 (strOf t2) (.slice B1 ns2.length d1) (.slice B2 lb.length d2)) (Jq.J.mk 3 b2 n2 t2 ns2 lb)) (eR : Jq.boolJ (S.1 (Jq.J.mk 3 b1 n1 t1 ns la) (Jq.J.mk 3 b2 n2 t2 ns2 lb)) = R) :
    Calls Tryd.prog 34 #[.int .i64 10, jv 3 b1 n1 (strOf t1) (.slice A1 N1 c1) (.slice A2 M1 c2), jv 3 b2 n2 (strOf t2) (.slice B1 N2 d1) (.slice B2 M2 d2)] w (ValE ok R w) := by
  obtain ⟨W, eW⟩ : ∃ W, W = ((w.alloc (box6 3 b1 n1 t1 N1 M1 A1 c1 A2 c2)).alloc (box6 3 b2 n2 t2 N2 M2 B1 d1 B2 d2)).alloc zobj := ⟨_, rfl⟩
  have hbW : Below w.heap.size w W := by rw [eW]; exact (below_new2 _ _ _).alloc (by simp; omega) _
  have hl0 : Lies W (w.heap.size + 2) 27 zero6 := by rw [eW]; exact Lies.new_ (by simp)
  have hlb : Lies W (w.heap.size + 1) 27 [.int .i64 3, .bool b2, .int .i64 n2, .string (strOf t2), .slice B1 N2 d1, .slice B2 M2 d2] := by rw [eW]; exact (Lies.new_ (by simp)).alloc _
  have hla : Lies W w.heap.size 27 [.int .i64 3, .bool b1, .int .i64 n1, .string (strOf t1), .slice A1 N1 c1, .slice A2 M1 c2] := by rw [eW]; exact ((Lies.new_ rfl).alloc _).alloc _
  have HBW := Lib.hid hbW
  have HL0 := Lib.hid hl0
  have HLA := Lib.hid hla
  have HLB := Lib.hid hlb
  have HW := Lib.hid eW
  obtain ⟨K, eK⟩ : ∃ K, S.1 (Jq.J.mk 3 b1 n1 t1 ns la) (Jq.J.mk 3 b2 n2 t2 ns2 lb) = K := ⟨_, rfl⟩
  have hC := sameS_any S (Jq.J.mk 3 b1 n1 t1 ns la) (Jq.J.mk 3 b2 n2 t2 ns2 lb) _ _ W (hJ.on hbW) (hJ2.on hbW)
  rw [eK] at eR hC
  have HR := Lib.hid eR
  rw [hN1, hM1, hN2, hM2, eW] at hC
  clear hJ hJ2 hN1 hM1 hN2 hM2 eK
  go_enter Tryd.func34, Tryd.ntmps34
  go_wp2_with fail
  refine hC.mono ?_
  rintro e w1 ⟨hb1, rfl⟩
  clear hC
  rw [← HW.out] at hb1
  have hD := truthM_any K w1
  go_wp2_with fail
  refine hD.mono ?_
  rintro e wE ⟨rfl, hb2⟩
  clear hD
  have hbE := below_more hb1 hb2
  clear hb1 hb2
  have hbw := below_more HBW.out hbE
  have hlE := HL0.out.below hbE HL0.out.lt
  have HQ : Hid (ValE ok R w (.returned (jv 1 K 0 ByteArray.empty nilS nilS)) (put6 wE (w.heap.size + 2) (.int .i64 1) (.bool K) (.int .i64 0) (.string ByteArray.empty) nilS nilS)) := valE_put (ok' := (fun _ => False)) (Nat.le_add_right _ 2) hbw (fun _ h => h.elim) (by rw [← HR.out]; exact isJ_bool _ _ _)
  have hlf : Lies (put6 wE (w.heap.size + 2) (.int .i64 1) (.bool K) (.int .i64 0) (.string ByteArray.empty) nilS nilS) (w.heap.size + 2) 27 [.int .i64 1, .bool K, .int .i64 0, .string ByteArray.empty, nilS, nilS] := hlE.put6
  obtain ⟨⟨q0, q1, q2, q3, q4, q5⟩, _⟩ := hlf.six
  obtain ⟨⟨r0, r1, r2, r3, r4, r5⟩, g0, g1, g2, g3, g4, g5⟩ := hlE.six
  clear hbE hbw hlE hlf hl0 hla hlb hbW eW eR
  go_wp2
  exact bodyPost_ret (by simp [results, Tryd.results34, go_sem, q0, q1, q2, q3, q4, q5]) rfl HQ.out
set_option maxHeartbeats 1000000 in
set_option maxRecDepth 100000 in
theorem ofTwo_equal2 {ok : Nat → Prop} {R : Jq.J} (b1 : Bool) (n1 : Int) (t1 : List Nat) (N1 M1 : Nat) (A1 A2 : Option Addr) (c1 c2 : Nat) (b2 : Bool) (n2 : Int) (t2 : List Nat) (N2 M2 : Nat) (B1 B2 : Option Addr) (d1 d2 : Nat) (w : World) {ok1 ok2 : Nat → Prop} (S : Mq.Same) (ns ns2 : List (List Nat)) (la lb : List Jq.J) (hN1 : ns.length = N1) (hM1 : la.length = M1) (hN2 : ns2.length = N2) (hM2 : lb.length = M2) (hJ : IsJ w ok1 (jv 2 b1 n1 (strOf t1) (.slice A1 ns.length c1) (.slice A2 la.length c2)) (Jq.J.mk 2 b1 n1 t1 ns la)) (hJ2 : IsJ w ok2 (jv 2 b2 n2 (strOf t2) (.slice B1 ns2.length d1) (.slice B2 lb.length d2)) (Jq.J.mk 2 b2 n2 t2 ns2 lb)) (eR : Jq.boolJ (S.1 (Jq.J.mk 2 b1 n1 t1 ns la) (Jq.J.mk 2 b2 n2 t2 ns2 lb)) = R) :
    Calls Tryd.prog 34 #[.int .i64 10, jv 2 b1 n1 (strOf t1) (.slice A1 N1 c1) (.slice A2 M1 c2), jv 2 b2 n2 (strOf t2) (.slice B1 N2 d1) (.slice B2 M2 d2)] w (ValE ok R w) := by
  obtain ⟨W, eW⟩ : ∃ W, W = ((w.alloc (box6 2 b1 n1 t1 N1 M1 A1 c1 A2 c2)).alloc (box6 2 b2 n2 t2 N2 M2 B1 d1 B2 d2)).alloc zobj := ⟨_, rfl⟩
  have hbW : Below w.heap.size w W := by rw [eW]; exact (below_new2 _ _ _).alloc (by simp; omega) _
  have hl0 : Lies W (w.heap.size + 2) 27 zero6 := by rw [eW]; exact Lies.new_ (by simp)
  have hlb : Lies W (w.heap.size + 1) 27 [.int .i64 2, .bool b2, .int .i64 n2, .string (strOf t2), .slice B1 N2 d1, .slice B2 M2 d2] := by rw [eW]; exact (Lies.new_ (by simp)).alloc _
  have hla : Lies W w.heap.size 27 [.int .i64 2, .bool b1, .int .i64 n1, .string (strOf t1), .slice A1 N1 c1, .slice A2 M1 c2] := by rw [eW]; exact ((Lies.new_ rfl).alloc _).alloc _
  have HBW := Lib.hid hbW
  have HL0 := Lib.hid hl0
  have HLA := Lib.hid hla
  have HLB := Lib.hid hlb
  have HW := Lib.hid eW
  obtain ⟨K, eK⟩ : ∃ K, S.1 (Jq.J.mk 2 b1 n1 t1 ns la) (Jq.J.mk 2 b2 n2 t2 ns2 lb) = K := ⟨_, rfl⟩
  have hC := sameS_any S (Jq.J.mk 2 b1 n1 t1 ns la) (Jq.J.mk 2 b2 n2 t2 ns2 lb) _ _ W (hJ.on hbW) (hJ2.on hbW)
  rw [eK] at eR hC
  have HR := Lib.hid eR
  rw [hN1, hM1, hN2, hM2, eW] at hC
  clear hJ hJ2 hN1 hM1 hN2 hM2 eK
  go_enter Tryd.func34, Tryd.ntmps34
  go_wp2_with fail
  refine hC.mono ?_
  rintro e w1 ⟨hb1, rfl⟩
  clear hC
  rw [← HW.out] at hb1
  have hD := truthM_any K w1
  go_wp2_with fail
  refine hD.mono ?_
  rintro e wE ⟨rfl, hb2⟩
  clear hD
  have hbE := below_more hb1 hb2
  clear hb1 hb2
  have hbw := below_more HBW.out hbE
  have hlE := HL0.out.below hbE HL0.out.lt
  have HQ : Hid (ValE ok R w (.returned (jv 1 K 0 ByteArray.empty nilS nilS)) (put6 wE (w.heap.size + 2) (.int .i64 1) (.bool K) (.int .i64 0) (.string ByteArray.empty) nilS nilS)) := valE_put (ok' := (fun _ => False)) (Nat.le_add_right _ 2) hbw (fun _ h => h.elim) (by rw [← HR.out]; exact isJ_bool _ _ _)
  have hlf : Lies (put6 wE (w.heap.size + 2) (.int .i64 1) (.bool K) (.int .i64 0) (.string ByteArray.empty) nilS nilS) (w.heap.size + 2) 27 [.int .i64 1, .bool K, .int .i64 0, .string ByteArray.empty, nilS, nilS] := hlE.put6
  obtain ⟨⟨q0, q1, q2, q3, q4, q5⟩, _⟩ := hlf.six
  obtain ⟨⟨r0, r1, r2, r3, r4, r5⟩, g0, g1, g2, g3, g4, g5⟩ := hlE.six
  clear hbE hbw hlE hlf hl0 hla hlb hbW eW eR
  go_wp2
  exact bodyPost_ret (by simp [results, Tryd.results34, go_sem, q0, q1, q2, q3, q4, q5]) rfl HQ.out
set_option maxHeartbeats 1000000 in
set_option maxRecDepth 100000 in
theorem ofTwo_equal1 {ok : Nat → Prop} {R : Jq.J} (b1 : Bool) (n1 : Int) (t1 : List Nat) (N1 M1 : Nat) (A1 A2 : Option Addr) (c1 c2 : Nat) (b2 : Bool) (n2 : Int) (t2 : List Nat) (N2 M2 : Nat) (B1 B2 : Option Addr) (d1 d2 : Nat) (w : World) {ok1 ok2 : Nat → Prop} (S : Mq.Same) (ns ns2 : List (List Nat)) (la lb : List Jq.J) (hN1 : ns.length = N1) (hM1 : la.length = M1) (hN2 : ns2.length = N2) (hM2 : lb.length = M2) (hJ : IsJ w ok1 (jv 1 b1 n1 (strOf t1) (.slice A1 ns.length c1) (.slice A2 la.length c2)) (Jq.J.mk 1 b1 n1 t1 ns la)) (hJ2 : IsJ w ok2 (jv 1 b2 n2 (strOf t2) (.slice B1 ns2.length d1) (.slice B2 lb.length d2)) (Jq.J.mk 1 b2 n2 t2 ns2 lb)) (eR : Jq.boolJ (S.1 (Jq.J.mk 1 b1 n1 t1 ns la) (Jq.J.mk 1 b2 n2 t2 ns2 lb)) = R) :
    Calls Tryd.prog 34 #[.int .i64 10, jv 1 b1 n1 (strOf t1) (.slice A1 N1 c1) (.slice A2 M1 c2), jv 1 b2 n2 (strOf t2) (.slice B1 N2 d1) (.slice B2 M2 d2)] w (ValE ok R w) := by
  obtain ⟨W, eW⟩ : ∃ W, W = ((w.alloc (box6 1 b1 n1 t1 N1 M1 A1 c1 A2 c2)).alloc (box6 1 b2 n2 t2 N2 M2 B1 d1 B2 d2)).alloc zobj := ⟨_, rfl⟩
  have hbW : Below w.heap.size w W := by rw [eW]; exact (below_new2 _ _ _).alloc (by simp; omega) _
  have hl0 : Lies W (w.heap.size + 2) 27 zero6 := by rw [eW]; exact Lies.new_ (by simp)
  have hlb : Lies W (w.heap.size + 1) 27 [.int .i64 1, .bool b2, .int .i64 n2, .string (strOf t2), .slice B1 N2 d1, .slice B2 M2 d2] := by rw [eW]; exact (Lies.new_ (by simp)).alloc _
  have hla : Lies W w.heap.size 27 [.int .i64 1, .bool b1, .int .i64 n1, .string (strOf t1), .slice A1 N1 c1, .slice A2 M1 c2] := by rw [eW]; exact ((Lies.new_ rfl).alloc _).alloc _
  have HBW := Lib.hid hbW
  have HL0 := Lib.hid hl0
  have HLA := Lib.hid hla
  have HLB := Lib.hid hlb
  have HW := Lib.hid eW
  obtain ⟨K, eK⟩ : ∃ K, S.1 (Jq.J.mk 1 b1 n1 t1 ns la) (Jq.J.mk 1 b2 n2 t2 ns2 lb) = K := ⟨_, rfl⟩
  have hC := sameS_any S (Jq.J.mk 1 b1 n1 t1 ns la) (Jq.J.mk 1 b2 n2 t2 ns2 lb) _ _ W (hJ.on hbW) (hJ2.on hbW)
  rw [eK] at eR hC
  have HR := Lib.hid eR
  rw [hN1, hM1, hN2, hM2, eW] at hC
  clear hJ hJ2 hN1 hM1 hN2 hM2 eK
  go_enter Tryd.func34, Tryd.ntmps34
  go_wp2_with fail
  refine hC.mono ?_
  rintro e w1 ⟨hb1, rfl⟩
  clear hC
  rw [← HW.out] at hb1
  have hD := truthM_any K w1
  go_wp2_with fail
  refine hD.mono ?_
  rintro e wE ⟨rfl, hb2⟩
  clear hD
  have hbE := below_more hb1 hb2
  clear hb1 hb2
  have hbw := below_more HBW.out hbE
  have hlE := HL0.out.below hbE HL0.out.lt
  have HQ : Hid (ValE ok R w (.returned (jv 1 K 0 ByteArray.empty nilS nilS)) (put6 wE (w.heap.size + 2) (.int .i64 1) (.bool K) (.int .i64 0) (.string ByteArray.empty) nilS nilS)) := valE_put (ok' := (fun _ => False)) (Nat.le_add_right _ 2) hbw (fun _ h => h.elim) (by rw [← HR.out]; exact isJ_bool _ _ _)
  have hlf : Lies (put6 wE (w.heap.size + 2) (.int .i64 1) (.bool K) (.int .i64 0) (.string ByteArray.empty) nilS nilS) (w.heap.size + 2) 27 [.int .i64 1, .bool K, .int .i64 0, .string ByteArray.empty, nilS, nilS] := hlE.put6
  obtain ⟨⟨q0, q1, q2, q3, q4, q5⟩, _⟩ := hlf.six
  obtain ⟨⟨r0, r1, r2, r3, r4, r5⟩, g0, g1, g2, g3, g4, g5⟩ := hlE.six
  clear hbE hbw hlE hlf hl0 hla hlb hbW eW eR
  go_wp2
  exact bodyPost_ret (by simp [results, Tryd.results34, go_sem, q0, q1, q2, q3, q4, q5]) rfl HQ.out
set_option maxHeartbeats 8000000 in
set_option maxRecDepth 100000 in
theorem ofTwo_none {ok : Nat → Prop} (op : Int) (k1 : Int) (b1 : Bool) (n1 : Int) (t1 : List Nat) (N1 M1 : Nat) (A1 A2 : Option Addr) (c1 c2 : Nat) (k2 : Int) (b2 : Bool) (n2 : Int) (t2 : List Nat) (N2 M2 : Nat) (B1 B2 : Option Addr) (d1 d2 : Nat) (w : World) (p14 : ¬ op = 14) (p15 : ¬ op = 15) (p16 : ¬ op = 16) (h5 : ¬ (op = 5 ∧ k1 = 3 ∧ k2 = 3)) (h17 : ¬ (op = 17 ∧ k1 = 3 ∧ k2 = 3)) (h11 : ¬ (op = 11 ∧ k1 = 2 ∧ k2 = 2)) (h12 : ¬ (op = 12 ∧ k1 = 3 ∧ k2 = 4)) (h10 : ¬ (op = 10 ∧ k1 = k2 ∧ (k1 = 3 ∨ k1 = 2 ∨ k1 = 1))) :
    Calls Tryd.prog 34 #[.int .i64 op, jv k1 b1 n1 (strOf t1) (.slice A1 N1 c1) (.slice A2 M1 c2), jv k2 b2 n2 (strOf t2) (.slice B1 N2 d1) (.slice B2 M2 d2)] w (ValE ok Jq.nullJ w) := by
  have hb : ∀ o o' o'', Below w.heap.size w (((w.alloc o).alloc o').alloc o'') := fun o o' o'' => (below_new2 _ _ _).alloc (by simp; omega) _
  have HQ : Hid (∀ o o' o'', ValE ok Jq.nullJ w (.returned (jv 0 false 0 ByteArray.empty nilS nilS)) (((w.alloc o).alloc o').alloc o'')) := fun o o' o'' => ⟨_, rfl, isJ_null _ _, hb o o' o''⟩
  clear hb
  obtain ⟨R, eR⟩ : ∃ R, Jq.nullJ = R := ⟨_, rfl⟩
  rw [eR] at HQ ⊢
  clear eR
  rcases Decidable.em (op = 5) with e | p5
  · subst e
    have hk : ¬ k1 = 3 ∨ (k1 = 3 ∧ ¬ k2 = 3) := by omega
    clear h5 h17 h11 h12 h10 p14 p15 p16
    rcases hk with hk | ⟨rfl, hk⟩
    · go_enter Tryd.func34, Tryd.ntmps34
      go_wp2
      exact bodyPost_ret (by simp [results, Tryd.results34, go_sem]; rfl) rfl (HQ.out _ _ _)
    · go_enter Tryd.func34, Tryd.ntmps34
      go_wp2
      exact bodyPost_ret (by simp [results, Tryd.results34, go_sem]; rfl) rfl (HQ.out _ _ _)
  rcases Decidable.em (op = 17) with e | p17
  · subst e
    have hk : ¬ k1 = 3 ∨ (k1 = 3 ∧ ¬ k2 = 3) := by omega
    clear h5 h17 h11 h12 h10 p14 p15 p16
    rcases hk with hk | ⟨rfl, hk⟩
    · go_enter Tryd.func34, Tryd.ntmps34
      go_wp2
      exact bodyPost_ret (by simp [results, Tryd.results34, go_sem]; rfl) rfl (HQ.out _ _ _)
    · go_enter Tryd.func34, Tryd.ntmps34
      go_wp2
      exact bodyPost_ret (by simp [results, Tryd.results34, go_sem]; rfl) rfl (HQ.out _ _ _)
  rcases Decidable.em (op = 11) with e | p11
  · subst e
    have hk : ¬ k1 = 2 ∨ (k1 = 2 ∧ ¬ k2 = 2) := by omega
    clear h5 h17 h11 h12 h10 p14 p15 p16
    rcases hk with hk | ⟨rfl, hk⟩
    · go_enter Tryd.func34, Tryd.ntmps34
      go_wp2
      exact bodyPost_ret (by simp [results, Tryd.results34, go_sem]; rfl) rfl (HQ.out _ _ _)
    · go_enter Tryd.func34, Tryd.ntmps34
      go_wp2
      exact bodyPost_ret (by simp [results, Tryd.results34, go_sem]; rfl) rfl (HQ.out _ _ _)
  rcases Decidable.em (op = 12) with e | p12
  · subst e
    have hk : ¬ k1 = 3 ∨ (k1 = 3 ∧ ¬ k2 = 4) := by omega
    clear h5 h17 h11 h12 h10 p14 p15 p16
    rcases hk with hk | ⟨rfl, hk⟩
    · go_enter Tryd.func34, Tryd.ntmps34
      go_wp2
      exact bodyPost_ret (by simp [results, Tryd.results34, go_sem]; rfl) rfl (HQ.out _ _ _)
    · go_enter Tryd.func34, Tryd.ntmps34
      go_wp2
      exact bodyPost_ret (by simp [results, Tryd.results34, go_sem]; rfl) rfl (HQ.out _ _ _)
  rcases Decidable.em (op = 10) with e | p10
  · subst e
    have hk : (k1 = 3 ∧ ¬ k2 = 3) ∨ (k1 = 2 ∧ ¬ k2 = 2) ∨ (k1 = 1 ∧ ¬ k2 = 1) ∨ (¬ k1 = 3 ∧ ¬ k1 = 2 ∧ ¬ k1 = 1) := by omega
    clear h5 h17 h11 h12 h10 p14 p15 p16 p5 p17 p11 p12
    rcases hk with ⟨rfl, hk⟩ | ⟨rfl, hk⟩ | ⟨rfl, hk⟩ | ⟨hk1, hk2, hk3⟩
    · go_enter Tryd.func34, Tryd.ntmps34
      go_wp2
      exact bodyPost_ret (by simp [results, Tryd.results34, go_sem]; rfl) rfl (HQ.out _ _ _)
    · go_enter Tryd.func34, Tryd.ntmps34
      go_wp2
      exact bodyPost_ret (by simp [results, Tryd.results34, go_sem]; rfl) rfl (HQ.out _ _ _)
    · go_enter Tryd.func34, Tryd.ntmps34
      go_wp2
      exact bodyPost_ret (by simp [results, Tryd.results34, go_sem]; rfl) rfl (HQ.out _ _ _)
    · go_enter Tryd.func34, Tryd.ntmps34
      go_wp2
      exact bodyPost_ret (by simp [results, Tryd.results34, go_sem]; rfl) rfl (HQ.out _ _ _)
  clear h5 h17 h11 h12 h10
  go_enter Tryd.func34, Tryd.ntmps34
  go_wp2
  exact bodyPost_ret (by simp [results, Tryd.results34, go_sem]; rfl) rfl (HQ.out _ _ _)

theorem ofTwoM_any (S : Mq.Same) {ok : Nat → Prop} (op : Int) (a b : Jq.J) (A1 A2 B1 B2 : Option Addr) (c1 c2 d1 d2 : Nat) (w : World) (hJA : IsJ w ok (jv a.kind a.bool a.int (strOf a.text) (.slice A1 a.names.length c1) (.slice A2 a.list.length c2)) a) (hJB : IsJ w ok (jv b.kind b.bool b.int (strOf b.text) (.slice B1 b.names.length d1) (.slice B2 b.list.length d2)) b) :
    Calls Tryd.prog 34 #[.int .i64 op, jv a.kind a.bool a.int (strOf a.text) (.slice A1 a.names.length c1) (.slice A2 a.list.length c2), jv b.kind b.bool b.int (strOf b.text) (.slice B1 b.names.length d1) (.slice B2 b.list.length d2)] w (ValE ok (Mq.ofTwo S op a b) w) := by
  by_cases h14 : op = 14
  · have e : Mq.ofTwo S op a b = Jq.boolJ (Mq.isTrue a && Mq.isTrue b) := by unfold Mq.ofTwo; rw [if_pos h14]
    rw [e, h14]
    exact ofTwo_and a b A1 A2 B1 B2 c1 c2 d1 d2 w rfl
  by_cases h15 : op = 15
  · have e : Mq.ofTwo S op a b = Jq.boolJ (Mq.isTrue a || Mq.isTrue b) := by unfold Mq.ofTwo; rw [if_neg h14, if_pos h15]
    rw [e, h15]
    exact ofTwo_or a b A1 A2 B1 B2 c1 c2 d1 d2 w rfl
  by_cases h16 : op = 16
  · have e : Mq.ofTwo S op a b = (if a.kind = 0 then b else a) := by unfold Mq.ofTwo; rw [if_neg h14, if_neg h15, if_pos h16]
    rw [e, h16]
    exact ofTwo_else a b A1 A2 B1 B2 c1 c2 d1 d2 w hJA hJB rfl
  obtain ⟨_, _, _, _, _, hta, _, _, _, _⟩ := hJA.parts
  obtain ⟨_, lvb, evb, _, _, htb, _, _, _, hLb⟩ := hJB.parts
  have hLb : ListIs w ok (.slice B2 b.list.length d2) b.list := by
    injection evb with ev
    simp at ev
    rw [ev.2]; exact hLb
  clear evb
  by_cases h5 : op = 5 ∧ a.kind = 3 ∧ b.kind = 3
  · have e : Mq.ofTwo S op a b = Mq.joinV a.text b.text := by unfold Mq.ofTwo; rw [if_neg h14, if_neg h15, if_neg h16, if_pos h5]
    rw [e, h5.1, h5.2.1, h5.2.2]
    exact ofTwo_join _ _ _ _ _ A1 A2 c1 c2 _ _ _ _ _ B1 B2 d1 d2 w hta htb rfl
  by_cases h17 : op = 17 ∧ a.kind = 3 ∧ b.kind = 3
  · have e : Mq.ofTwo S op a b = Jq.boolJ (decide (a.text.take b.text.length = b.text)) := by unfold Mq.ofTwo; rw [if_neg h14, if_neg h15, if_neg h16, if_neg h5, if_pos h17]
    rw [e, h17.1, h17.2.1, h17.2.2]
    exact ofTwo_starts _ _ _ _ _ A1 A2 c1 c2 _ _ _ _ _ B1 B2 d1 d2 w hta htb rfl
  by_cases h11 : op = 11 ∧ a.kind = 2 ∧ b.kind = 2
  · have e : Mq.ofTwo S op a b = Jq.boolJ (decide (a.int < b.int)) := by unfold Mq.ofTwo; rw [if_neg h14, if_neg h15, if_neg h16, if_neg h5, if_neg h17, if_pos h11]
    rw [e, h11.1, h11.2.1, h11.2.2]
    exact ofTwo_less _ _ _ _ _ A1 A2 c1 c2 _ _ _ _ _ B1 B2 d1 d2 w rfl
  by_cases h12 : op = 12 ∧ a.kind = 3 ∧ b.kind = 4
  · have e : Mq.ofTwo S op a b = Jq.boolJ (b.list.any (S.1 a)) := by unfold Mq.ofTwo; rw [if_neg h14, if_neg h15, if_neg h16, if_neg h5, if_neg h17, if_neg h11, if_pos h12]
    rw [e]
    obtain ⟨rfl, ha, hb⟩ := h12
    rw [hb]
    obtain ⟨k, b1, n1, t1, ns, la⟩ := a
    obtain rfl : k = 3 := ha
    exact ofTwo_in b1 n1 t1 _ _ A1 A2 c1 c2 _ _ _ _ _ B1 B2 d1 d2 w S b.list rfl hLb ns la rfl rfl hJA rfl
  by_cases h10 : op = 10 ∧ a.kind = b.kind ∧ (a.kind = 3 ∨ a.kind = 2 ∨ a.kind = 1)
  · have e : Mq.ofTwo S op a b = Jq.boolJ (S.1 a b) := by unfold Mq.ofTwo; rw [if_neg h14, if_neg h15, if_neg h16, if_neg h5, if_neg h17, if_neg h11, if_neg h12, if_pos h10]
    rw [e]
    obtain ⟨rfl, hab, hk⟩ := h10
    obtain ⟨k, b1, n1, t1, ns, la⟩ := a
    obtain ⟨k2, b2, n2, t2, ns2, lb⟩ := b
    obtain rfl : k = k2 := hab
    rcases (show k = 3 ∨ k = 2 ∨ k = 1 from hk) with rfl | rfl | rfl
    · exact ofTwo_equal3 b1 n1 t1 _ _ A1 A2 c1 c2 b2 n2 t2 _ _ B1 B2 d1 d2 w S ns ns2 la lb rfl rfl rfl rfl hJA hJB rfl
    · exact ofTwo_equal2 b1 n1 t1 _ _ A1 A2 c1 c2 b2 n2 t2 _ _ B1 B2 d1 d2 w S ns ns2 la lb rfl rfl rfl rfl hJA hJB rfl
    · exact ofTwo_equal1 b1 n1 t1 _ _ A1 A2 c1 c2 b2 n2 t2 _ _ B1 B2 d1 d2 w S ns ns2 la lb rfl rfl rfl rfl hJA hJB rfl
  have e : Mq.ofTwo S op a b = Jq.nullJ := by unfold Mq.ofTwo; rw [if_neg h14, if_neg h15, if_neg h16, if_neg h5, if_neg h17, if_neg h11, if_neg h12, if_neg h10]
  rw [e]
  exact ofTwo_none op _ _ _ _ _ _ A1 A2 c1 c2 _ _ _ _ _ _ B1 B2 d1 d2 w h14 h15 h16 h5 h17 h11 h12 h10
end Go.Proofs.YtnbaajdcakjlmaaDoor
