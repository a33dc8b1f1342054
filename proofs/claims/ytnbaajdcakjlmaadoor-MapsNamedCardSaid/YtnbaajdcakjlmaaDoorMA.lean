/-
  Small functions of maps: which values are none, true; an element of a list of values; texts as values.
-/
import Derived.Test.YtnbaajdcakjlmaaDoorMM
import Derived.Test.YtnbaajdcakjlmaaDoorQJ
namespace Go.Proofs.YtnbaajdcakjlmaaDoor
open Go.RowKit

/-- How what returns a value ends: the value is x, in blocks of which ok speaks. -/
def ValE (ok : Nat → Prop) (x : Jq.J) (w : World) (e : Ending) (w' : World) : Prop := ∃ u, e = .returned u ∧ IsJ w' ok u x ∧ Below w.heap.size w w'
theorem ValE.weak {ok ok' : Nat → Prop} {x : Jq.J} {w : World} {e : Ending} {w' : World} (h : ValE ok x w e w') (hk : ∀ b, ok b → ok' b) : ValE ok' x w e w' := by
  obtain ⟨u, h1, h2, h3⟩ := h
  exact ⟨u, h1, h2.keep (fun b hb _ => ⟨hk b hb, rfl⟩) (Nat.le_refl _), h3⟩
theorem ValE.up {ok : Nat → Prop} {x : Jq.J} {w w1 : World} {e : Ending} {w' : World} (h : ValE ok x w1 e w') (hb : Below w.heap.size w w1) : ValE ok x w e w' := by
  obtain ⟨u, h1, h2, h3⟩ := h
  exact ⟨u, h1, h2, below_more hb h3⟩
theorem SixAt.on {w w' : World} {b o : Nat} {v0 v1 v2 v3 v4 v5 : Value} (h : SixAt w b o v0 v1 v2 v3 v4 v5) (hlt : b < w.heap.size) (hb : Below w.heap.size w w') : SixAt w' b o v0 v1 v2 v3 v4 v5 :=
  ⟨(hb.cell hlt).trans h.1, (hb.cell hlt).trans h.2.1, (hb.cell hlt).trans h.2.2.1, (hb.cell hlt).trans h.2.2.2.1, (hb.cell hlt).trans h.2.2.2.2.1, (hb.cell hlt).trans h.2.2.2.2.2⟩
theorem isJ_null (w : World) (ok : Nat → Prop) : IsJ w ok (jv 0 false 0 ByteArray.empty nilS nilS) Jq.nullJ := isJ_plain w ok (t := []) (by omega) (by omega) ⟨Nat.zero_le _, fun _ h => nomatch h⟩
theorem isJ_bool (w : World) (ok : Nat → Prop) (b : Bool) : IsJ w ok (jv 1 b 0 ByteArray.empty nilS nilS) (Jq.boolJ b) := isJ_plain w ok (t := []) (by omega) (by omega) ⟨Nat.zero_le _, fun _ h => nomatch h⟩
theorem isJ_text (w : World) (ok : Nat → Prop) {t : List Nat} (ht : t.length ≤ 140737488355328 ∧ ∀ x ∈ t, x < 256) : IsJ w ok (jv 3 false 0 (strOf t) nilS nilS) (Jq.textJ t) := isJ_plain w ok (by omega) (by omega) ht
theorem isJ_int (w : World) (ok : Nat → Prop) {n : Int} (hn : -9223372036854775808 ≤ n ∧ n ≤ 9223372036854775807) : IsJ w ok (jv 2 false n ByteArray.empty nilS nilS) (Jq.intJ n) := isJ_plain w ok (t := []) (by omega) hn ⟨Nat.zero_le _, fun _ h => nomatch h⟩

set_option maxHeartbeats 1000000 in
set_option maxRecDepth 100000 in
theorem isNoneM_any (x : Jq.J) (A1 A2 : Option Addr) (c1 c2 : Nat) (w : World) :
    Calls Tryd.prog 23 #[jv x.kind x.bool x.int (strOf x.text) (.slice A1 x.names.length c1) (.slice A2 x.list.length c2)] w fun e w' => Below w.heap.size w w' ∧ e = .returned (.bool (decide (x.kind = 0))) := by
  have HB := Lib.hid (below_new w (jbox x A1 c1 A2 c2))
  have HQ := Lib.hid (beq_dec x.kind 0)
  go_enter Tryd.func23, Tryd.ntmps23
  go_wp2
  go_ret
  exact ⟨HB.out, congrArg (fun b => Ending.returned (.bool b)) HQ.out⟩
set_option maxHeartbeats 1000000 in
set_option maxRecDepth 100000 in
theorem isTrueM_any (x : Jq.J) (A1 A2 : Option Addr) (c1 c2 : Nat) (w : World) :
    Calls Tryd.prog 35 #[jv x.kind x.bool x.int (strOf x.text) (.slice A1 x.names.length c1) (.slice A2 x.list.length c2)] w fun e w' => Below w.heap.size w w' ∧ e = .returned (.bool (Mq.isTrue x)) := by
  have HB := Lib.hid (below_new w (jbox x A1 c1 A2 c2))
  by_cases h1 : x.kind = 1
  · have g : (x.kind == 1) = true := by rw [h1]; rfl
    have HQ : Hid (x.bool = Mq.isTrue x) := by unfold Hid Mq.isTrue; rw [decide_eq_true h1, Bool.true_and]
    clear h1
    go_enter Tryd.func35, Tryd.ntmps35
    go_wp2
    go_ret
    exact ⟨HB.out, congrArg (fun b => Ending.returned (.bool b)) HQ.out⟩
  · have g : (x.kind == 1) = false := beq_false_of_ne h1
    have HQ : Hid (false = Mq.isTrue x) := by unfold Hid Mq.isTrue; rw [decide_eq_false h1, Bool.false_and]
    clear h1
    go_enter Tryd.func35, Tryd.ntmps35
    go_wp2
    go_ret
    exact ⟨HB.out, congrArg (fun b => Ending.returned (.bool b)) HQ.out⟩
set_option maxRecDepth 100000 in
theorem truthM_any (b : Bool) (w : World) : Calls Tryd.prog 31 #[.bool b] w fun e w' => e = .returned (jv 1 b 0 ByteArray.empty nilS nilS) ∧ Below w.heap.size w w' := by
  go_enter Tryd.func31, Tryd.ntmps31
  go_wp2
  exact bodyPost_ret (by simp [results, Tryd.results31, go_sem]; rfl) rfl ⟨rfl, one_alloc _ _⟩
set_option maxHeartbeats 1000000 in
set_option maxRecDepth 100000 in
theorem textIfM_any (b : Bool) (s : ByteArray) (w : World) : Calls Tryd.prog 42 #[.bool b, .string s] w fun e w' => e = .returned (if b = true then jv 3 false 0 s nilS nilS else jv 0 false 0 ByteArray.empty nilS nilS) ∧ Below w.heap.size w w' := by
  obtain ⟨W, eW⟩ : ∃ W, W = w.alloc (.cells #[.int .i64 0, .bool false, .int .i64 0, .string ByteArray.empty, nilS, nilS] 27) := ⟨_, rfl⟩
  have hbW : Below w.heap.size w W := by rw [eW]; exact below_new _ _
  have hl0 : Lies W w.heap.size 27 zero6 := by rw [eW]; exact Lies.new_ rfl
  cases b with
  | false =>
    rw [if_neg Bool.false_ne_true]
    go_enter Tryd.func42, Tryd.ntmps42
    go_wp2
    exact bodyPost_ret (by simp [results, Tryd.results42, go_sem]; rfl) rfl ⟨rfl, one_alloc _ _⟩
  | true =>
    rw [if_pos rfl]
    have hC := textMade_any s W
    have HW := Lib.hid eW
    rw [eW] at hC
    go_enter Tryd.func42, Tryd.ntmps42
    go_wp2_with fail
    refine hC.mono ?_
    rintro e w1 ⟨rfl, hb⟩
    rw [← HW.out] at hb
    have hl1 := hl0.below hb hl0.lt
    have hlf : Lies (put6 w1 w.heap.size (.int .i64 3) (.bool false) (.int .i64 0) (.string s) nilS nilS) w.heap.size 27 [.int .i64 3, .bool false, .int .i64 0, .string s, nilS, nilS] := hl1.put6
    obtain ⟨⟨q0, q1, q2, q3, q4, q5⟩, _⟩ := hlf.six
    obtain ⟨⟨r0, r1, r2, r3, r4, r5⟩, g0, g1, g2, g3, g4, g5⟩ := hl1.six
    have HB : Hid (Below w.heap.size w (put6 w1 w.heap.size (.int .i64 3) (.bool false) (.int .i64 0) (.string s) nilS nilS)) := (below_more hbW hb).trans (gb_down gb_put6 (below_more hbW hb).size (Nat.le_refl _))
    clear hb hl1 hlf hC hbW hl0 eW
    go_wp2
    exact bodyPost_ret (by simp [results, Tryd.results42, go_sem, q0, q1, q2, q3, q4, q5]) rfl ⟨rfl, HB.out⟩
set_option maxHeartbeats 1000000 in
set_option maxRecDepth 100000 in
theorem joinM_any (s t : ByteArray) (w : World) (hs : s.size ≤ 140737488355328) (ht : t.size ≤ 140737488355328) : Calls Tryd.prog 43 #[.string s, .string t] w fun e w' => e = .returned (if s.size + t.size ≤ 4096 then jv 3 false 0 (s ++ t) nilS nilS else jv 0 false 0 ByteArray.empty nilS nilS) ∧ Below w.heap.size w w' := by
  obtain ⟨W, eW⟩ : ∃ W, W = w.alloc (.cells #[.int .i64 0, .bool false, .int .i64 0, .string ByteArray.empty, nilS, nilS] 27) := ⟨_, rfl⟩
  have hbW : Below w.heap.size w W := by rw [eW]; exact below_new _ _
  have hl0 : Lies W w.heap.size 27 zero6 := by rw [eW]; exact Lies.new_ rfl
  have hw : IntKind.i64.wrap ((s.size : Int) + (t.size : Int)) = (s.size : Int) + (t.size : Int) := by unfold IntKind.wrap; simp [IntKind.bits, IntKind.signed]; omega
  by_cases h : s.size + t.size ≤ 4096
  · have d1 : decide ((4096 : Int) < (s.size : Int) + (t.size : Int)) = false := decide_eq_false (by omega)
    rw [if_pos h]
    have hC := textMade_any (s ++ t) W
    have HW := Lib.hid eW
    rw [eW] at hC
    go_enter Tryd.func43, Tryd.ntmps43
    go_wp2_with fail
    refine hC.mono ?_
    rintro e w1 ⟨rfl, hb⟩
    rw [← HW.out] at hb
    have hl1 := hl0.below hb hl0.lt
    have hlf : Lies (put6 w1 w.heap.size (.int .i64 3) (.bool false) (.int .i64 0) (.string (s ++ t)) nilS nilS) w.heap.size 27 [.int .i64 3, .bool false, .int .i64 0, .string (s ++ t), nilS, nilS] := hl1.put6
    obtain ⟨⟨q0, q1, q2, q3, q4, q5⟩, _⟩ := hlf.six
    obtain ⟨⟨r0, r1, r2, r3, r4, r5⟩, g0, g1, g2, g3, g4, g5⟩ := hl1.six
    have HB : Hid (Below w.heap.size w (put6 w1 w.heap.size (.int .i64 3) (.bool false) (.int .i64 0) (.string (s ++ t)) nilS nilS)) := (below_more hbW hb).trans (gb_down gb_put6 (below_more hbW hb).size (Nat.le_refl _))
    clear hb hl1 hlf hC hbW hl0 eW
    go_wp2
    exact bodyPost_ret (by simp [results, Tryd.results43, go_sem, q0, q1, q2, q3, q4, q5]) rfl ⟨rfl, HB.out⟩
  · have d1 : decide ((4096 : Int) < (s.size : Int) + (t.size : Int)) = true := decide_eq_true (by omega)
    rw [if_neg h]
    go_enter Tryd.func43, Tryd.ntmps43
    go_wp2
    exact bodyPost_ret (by simp [results, Tryd.results43, go_sem]; rfl) rfl ⟨rfl, one_alloc _ _⟩
set_option maxHeartbeats 1000000 in
set_option maxRecDepth 100000 in
theorem hasM_any (A : Option Addr) (n c : Nat) (k : Int) (w : World) :
    Calls Tryd.prog 33 #[.slice A n c, .int .i64 k] w fun e w' => Below w.heap.size w w' ∧ e = .returned (.bool (decide (0 ≤ k ∧ k < (n : Int)))) := by
  obtain ⟨K, eK⟩ : ∃ K, decide (0 ≤ k ∧ k < (n : Int)) = K := ⟨_, rfl⟩
  rw [eK]
  by_cases h : 0 ≤ k
  · have d1 : decide (0 ≤ k) = true := decide_eq_true h
    have HQ : Hid (decide (k < (n : Int)) = K) := by unfold Hid; rw [← eK]; congr 1; simp [h]
    clear eK
    go_enter Tryd.func33, Tryd.ntmps33
    go_wp2
    go_ret
    exact ⟨Below.refl _ _, congrArg (fun b => Ending.returned (.bool b)) HQ.out⟩
  · have d1 : decide (0 ≤ k) = false := decide_eq_false h
    have HQ : Hid (false = K) := by unfold Hid; rw [← eK]; exact (decide_eq_false fun g => h g.1).symm
    clear eK
    go_enter Tryd.func33, Tryd.ntmps33
    go_wp2
    go_ret
    exact ⟨Below.refl _ _, congrArg (fun b => Ending.returned (.bool b)) HQ.out⟩
set_option maxHeartbeats 2000000 in
set_option maxRecDepth 100000 in
theorem atM_any {ok : Nat → Prop} (l : List Jq.J) (A : Option Addr) (n c : Nat) (k : Int) (w : World) (hL : ListIs w ok (.slice A n c) l) (hl : l.length = n) :
    Calls Tryd.prog 22 #[.slice A n c, .int .i64 k] w (ValE ok (Mq.at_ l k) w) := by
  obtain ⟨W, eW⟩ : ∃ W, W = w.alloc (.cells #[.int .i64 0, .bool false, .int .i64 0, .string ByteArray.empty, nilS, nilS] 27) := ⟨_, rfl⟩
  have hbW : Below w.heap.size w W := by rw [eW]; exact below_new _ _
  have hl0 : Lies W w.heap.size 27 zero6 := by rw [eW]; exact Lies.new_ rfl
  have hH := hasM_any A n c k W
  have HW := Lib.hid eW
  have HL0 := Lib.hid hl0
  have HBW := Lib.hid hbW
  by_cases h : 0 ≤ k ∧ k < (n : Int)
  · rw [decide_eq_true h, eW] at hH
    obtain ⟨m, rfl⟩ : ∃ m : Nat, k = (m : Int) := ⟨k.toNat, by omega⟩
    have hm : m < n := by omega
    obtain ⟨b, off, y, B1, e1, B2, e2, rfl, hbb, hblt, hx, hJ, hsix⟩ := hL.elem (i := m) (by rw [hl]; exact hm)
    have HX := Lib.hid (Mq.at_some hx)
    have HJ := Lib.hid hJ
    have HS := Lib.hid hsix
    have HLT := Lib.hid hblt
    clear hL hl hx hJ hsix hblt hbb h hbW hl0 eW
    go_enter Tryd.func22, Tryd.ntmps22
    go_wp2_with fail
    refine hH.mono ?_
    rintro e w1 ⟨hb, rfl⟩
    clear hH
    rw [← HW.out] at hb
    have hbw := below_more HBW.out hb
    have hl1 := HL0.out.below hb HL0.out.lt
    obtain ⟨s0, s1, s2, s3, s4, s5⟩ := HS.out.on HLT.out hbw
    have hlf : Lies (put6 w1 w.heap.size (.int .i64 y.kind) (.bool y.bool) (.int .i64 y.int) (.string (strOf y.text)) (.slice B1 y.names.length e1) (.slice B2 y.list.length e2)) w.heap.size 27 [.int .i64 y.kind, .bool y.bool, .int .i64 y.int, .string (strOf y.text), .slice B1 y.names.length e1, .slice B2 y.list.length e2] := hl1.put6
    obtain ⟨⟨q0, q1, q2, q3, q4, q5⟩, _⟩ := hlf.six
    obtain ⟨⟨r0, r1, r2, r3, r4, r5⟩, g0, g1, g2, g3, g4, g5⟩ := hl1.six
    have hbf : Below w.heap.size w (put6 w1 w.heap.size (.int .i64 y.kind) (.bool y.bool) (.int .i64 y.int) (.string (strOf y.text)) (.slice B1 y.names.length e1) (.slice B2 y.list.length e2)) := hbw.trans (gb_down gb_put6 hbw.size (Nat.le_refl _))
    have HQ : Hid (ValE ok (Mq.at_ l (m : Int)) w (.returned (jv y.kind y.bool y.int (strOf y.text) (.slice B1 y.names.length e1) (.slice B2 y.list.length e2))) (put6 w1 w.heap.size (.int .i64 y.kind) (.bool y.bool) (.int .i64 y.int) (.string (strOf y.text)) (.slice B1 y.names.length e1) (.slice B2 y.list.length e2))) := ⟨_, rfl, by rw [HX.out]; exact HJ.out.on hbf, hbf⟩
    clear hb hbw hl1 hlf hbf
    go_wp2
    exact bodyPost_ret (by simp [results, Tryd.results22, go_sem, q0, q1, q2, q3, q4, q5]) rfl HQ.out
  · rw [decide_eq_false h, eW] at hH
    have HX : Hid (Mq.at_ l k = Jq.nullJ) := Mq.at_none (by unfold Mq.has; rw [hl]; exact h)
    clear hL hl h hbW hl0 eW
    go_enter Tryd.func22, Tryd.ntmps22
    go_wp2_with fail
    refine hH.mono ?_
    rintro e w1 ⟨hb, rfl⟩
    clear hH
    rw [← HW.out] at hb
    have hbw := below_more HBW.out hb
    have hl1 := HL0.out.below hb HL0.out.lt
    have hlf : Lies (put6 w1 w.heap.size (.int .i64 0) (.bool false) (.int .i64 0) (.string { data := #[] }) nilS nilS) w.heap.size 27 [.int .i64 0, .bool false, .int .i64 0, .string { data := #[] }, nilS, nilS] := hl1.put6
    obtain ⟨⟨q0, q1, q2, q3, q4, q5⟩, _⟩ := hlf.six
    obtain ⟨⟨r0, r1, r2, r3, r4, r5⟩, g0, g1, g2, g3, g4, g5⟩ := hl1.six
    have hbf : Below w.heap.size w (put6 w1 w.heap.size (.int .i64 0) (.bool false) (.int .i64 0) (.string { data := #[] }) nilS nilS) := hbw.trans (gb_down gb_put6 hbw.size (Nat.le_refl _))
    have HQ : Hid (ValE ok (Mq.at_ l k) w (.returned (jv 0 false 0 { data := #[] } nilS nilS)) (put6 w1 w.heap.size (.int .i64 0) (.bool false) (.int .i64 0) (.string { data := #[] }) nilS nilS)) := ⟨_, rfl, by rw [HX.out]; exact isJ_null _ _, hbf⟩
    clear hb hbw hl1 hlf hbf
    go_wp2
    exact bodyPost_ret (by simp [results, Tryd.results22, go_sem, q0, q1, q2, q3, q4, q5]) rfl HQ.out
end Go.Proofs.YtnbaajdcakjlmaaDoor
