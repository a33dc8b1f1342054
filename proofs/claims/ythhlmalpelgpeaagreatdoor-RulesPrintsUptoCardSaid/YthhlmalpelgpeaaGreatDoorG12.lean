/-
  G12: ZWf, side by side.
-/
import Derived.Test.YthhlmalpelgpeaaGreatDoorG11
import Derived.Test.YthhlmalpelgpeaaGreatDoorG02
import Derived.Test.YthhlmalpelgpeaaGreatDoorG09

/-
  The writer of rules: the forms of nodes.
-/
namespace Go.Proofs.YthhlmalpelgpeaaGreatDoor
open Go.RowKit

/-- How a node is written. -/
structure Fm where
  ops : Nat
  ahead : List Nat
  between : List Nat
  behind : List Nat
  own : Nat
  left : Nat
  right : Nat
abbrev fv7 (a : Int) (b c d : ByteArray) (e f g : Int) : Value := .agg #[.int .i64 a, .string b, .string c, .string d, .int .i64 e, .int .i64 f, .int .i64 g]
abbrev fmV (f : Fm) : Value := fv7 (f.ops : Nat) (strOf f.ahead) (strOf f.between) (strOf f.behind) (f.own : Nat) (f.left : Nat) (f.right : Nat)
def leafF (s : List Nat) : Fm := ⟨0, s, [], [], 7, 0, 0⟩
def funF (n : Nat) (s : List Nat) : Fm := ⟨n, s ++ [40], [44, 32], [41], 7, 0, 0⟩
def chainF (s : List Nat) (own : Nat) : Fm := ⟨2, [], s, [], own, own, own + 1⟩
def cmpF (s : List Nat) : Fm := ⟨2, [], s, [], 4, 5, 5⟩
def formP (n : Zq.Nd) : Fm :=
  if n.op = 1 then leafF (Zq.quoted n.text)
  else if n.op = 2 then leafF (Jq.decimal n.int)
  else if n.op = 3 then leafF (36 :: n.text)
  else if n.op = 4 then leafF (Zq.wHas ++ 40 :: 36 :: n.text ++ [41])
  else if n.op = 5 then chainF [32, 43, 32] 5
  else if n.op = 6 then funF 1 Zq.wLower
  else if n.op = 7 then funF 1 Zq.wFirst
  else if n.op = 8 then funF 1 Zq.wHead
  else if n.op = 9 then funF 1 Zq.wTail
  else if n.op = 10 then cmpF [32, 61, 61, 32]
  else if n.op = 11 then cmpF [32, 60, 32]
  else if n.op = 12 then cmpF [32, 105, 110, 32]
  else if n.op = 13 then ⟨1, [110, 111, 116, 32], [], [], 3, 3, 0⟩
  else if n.op = 14 then chainF [32, 97, 110, 100, 32] 2
  else if n.op = 15 then chainF [32, 111, 114, 32] 1
  else if n.op = 16 then chainF [32, 101, 108, 115, 101, 32] 6
  else if n.op = 17 then funF 2 Zq.wStarts
  else leafF [63]
section
variable (w : World)
set_option maxRecDepth 100000 in
theorem leaf_any (s : ByteArray) : Calls Tryz.prog 111 #[.string s] w fun e w' => e = .returned (fv7 0 s { data := #[] } { data := #[] } 7 0 0) ∧ Below w.heap.size w w' := by
  have HB := Lib.hid (box_below w (.cells #[.int .i64 0, .string s, .string { data := #[] }, .string { data := #[] }, .int .i64 7, .int .i64 0, .int .i64 0] 116))
  go_enter Tryz.func111, Tryz.ntmps111
  go_wp2
  exact bodyPost_ret (v := fv7 0 s { data := #[] } { data := #[] } 7 0 0) (by simp [results, Tryz.results111, go_sem]) rfl ⟨rfl, HB.out⟩
set_option maxRecDepth 100000 in
theorem function_any (n : Int) (s : ByteArray) (hs : s.size ≤ 100) : Calls Tryz.prog 114 #[.int .i64 n, .string s] w fun e w' => e = .returned (fv7 n (s ++ { data := #[40] }) { data := #[44, 32] } { data := #[41] } 7 0 0) ∧ Below w.heap.size w w' := by
  have HB := Lib.hid (box_below w (.cells #[.int .i64 n, .string (s ++ { data := #[40] }), .string { data := #[44, 32] }, .string { data := #[41] }, .int .i64 7, .int .i64 0, .int .i64 0] 116))
  go_enter Tryz.func114, Tryz.ntmps114
  go_wp2
  exact bodyPost_ret (v := fv7 n (s ++ { data := #[40] }) { data := #[44, 32] } { data := #[41] } 7 0 0) (by simp [results, Tryz.results114, go_sem]) rfl ⟨rfl, HB.out⟩
set_option maxRecDepth 100000 in
theorem chained_any (s : ByteArray) (o : Int) (h0 : 0 ≤ o) (h1 : o ≤ 10) : Calls Tryz.prog 113 #[.string s, .int .i64 o] w fun e w' => e = .returned (fv7 2 { data := #[] } s { data := #[] } o o (o + 1)) ∧ Below w.heap.size w w' := by
  have HB := Lib.hid (box_below w (.cells #[.int .i64 2, .string { data := #[] }, .string s, .string { data := #[] }, .int .i64 o, .int .i64 o, .int .i64 (o + 1)] 116))
  go_enter Tryz.func113, Tryz.ntmps113
  go_wp2
  exact bodyPost_ret (v := fv7 2 { data := #[] } s { data := #[] } o o (o + 1)) (by simp [results, Tryz.results113, go_sem]) rfl ⟨rfl, HB.out⟩
set_option maxRecDepth 100000 in
theorem compared_any (s : ByteArray) : Calls Tryz.prog 115 #[.string s] w fun e w' => e = .returned (fv7 2 { data := #[] } s { data := #[] } 4 5 5) ∧ Below w.heap.size w w' := by
  have HB := Lib.hid (box_below w (.cells #[.int .i64 2, .string { data := #[] }, .string s, .string { data := #[] }, .int .i64 4, .int .i64 5, .int .i64 5] 116))
  go_enter Tryz.func115, Tryz.ntmps115
  go_wp2
  exact bodyPost_ret (v := fv7 2 { data := #[] } s { data := #[] } 4 5 5) (by simp [results, Tryz.results115, go_sem]) rfl ⟨rfl, HB.out⟩
end
abbrev zero7 : List Value := [.int .i64 0, .string { data := #[] }, .string { data := #[] }, .string { data := #[] }, .int .i64 0, .int .i64 0, .int .i64 0]
abbrev put7 (w : World) (g : Nat) (a : Int) (b c d : ByteArray) (e f h : Int) : World := ((((((w.setCell ⟨g, 0, none⟩ (.int .i64 a)).setCell ⟨g, 1, none⟩ (.string b)).setCell ⟨g, 2, none⟩ (.string c)).setCell ⟨g, 3, none⟩ (.string d)).setCell ⟨g, 4, none⟩ (.int .i64 e)).setCell ⟨g, 5, none⟩ (.int .i64 f)).setCell ⟨g, 6, none⟩ (.int .i64 h)
theorem Lies.put7 {w : World} {g : Nat} {ty : TypeId} {x0 x1 x2 x3 x4 x5 x6 : Value} (h : Lies w g ty [x0, x1, x2, x3, x4, x5, x6]) (a : Int) (b c d : ByteArray) (e f i : Int) : Lies (Go.Proofs.YthhlmalpelgpeaaGreatDoor.put7 w g a b c d e f i) g ty [.int .i64 a, .string b, .string c, .string d, .int .i64 e, .int .i64 f, .int .i64 i] := by
  have := ((((((h.put 0 (.int .i64 a)).put 1 (.string b)).put 2 (.string c)).put 3 (.string d)).put 4 (.int .i64 e)).put 5 (.int .i64 f)).put 6 (.int .i64 i)
  exact this
theorem put7_below {B : Nat} {W w : World} {g : Nat} (h : Below B W w) (hg : B ≤ g) (a : Int) (b c d : ByteArray) (e f i : Int) : Below B W (Go.Proofs.YthhlmalpelgpeaaGreatDoor.put7 w g a b c d e f i) := ((((((h.setCell hg _).setCell hg _).setCell hg _).setCell hg _).setCell hg _).setCell hg _).setCell hg _
theorem Lies.seven {w : World} {g : Nat} {ty : TypeId} {a b c d e f i : Value} (h : Lies w g ty [a, b, c, d, e, f, i]) : (w.cell? ⟨g, 0, none⟩ = some a ∧ w.cell? ⟨g, 1, none⟩ = some b ∧ w.cell? ⟨g, 2, none⟩ = some c ∧ w.cell? ⟨g, 3, none⟩ = some d ∧ w.cell? ⟨g, 4, none⟩ = some e ∧ w.cell? ⟨g, 5, none⟩ = some f ∧ w.cell? ⟨g, 6, none⟩ = some i) ∧
    (w.frozen? ⟨g, 0, none⟩ = false ∧ w.frozen? ⟨g, 1, none⟩ = false ∧ w.frozen? ⟨g, 2, none⟩ = false ∧ w.frozen? ⟨g, 3, none⟩ = false ∧ w.frozen? ⟨g, 4, none⟩ = false ∧ w.frozen? ⟨g, 5, none⟩ = false ∧ w.frozen? ⟨g, 6, none⟩ = false) :=
  ⟨⟨h.cell 0, h.cell 1, h.cell 2, h.cell 3, h.cell 4, h.cell 5, h.cell 6⟩, h.free 0, h.free 1, h.free 2, h.free 3, h.free 4, h.free 5, h.free 6⟩
def FmEnd (f : Fm) (w : World) (e : Ending) (w' : World) : Prop := e = .returned (fmV f) ∧ Below w.heap.size w w'
theorem str_app (s t : List Nat) : strOf s ++ strOf t = strOf (s ++ t) := strOf_append s t
set_option maxHeartbeats 8000000 in
set_option maxRecDepth 100000 in
theorem formOf_any (n : Zq.Nd) (w : World) (hH : HeldZ w) (h0 : -9223372036854775808 ≤ n.int) (h1 : n.int ≤ 9223372036854775807) (ht : n.text.length ≤ 35184372088832) (htl : ∀ x ∈ n.text, x < 256) :
    Calls Tryz.prog 97 #[ndv n] w (FmEnd (formP n) w) := by
  obtain ⟨op, int, na, nb, text⟩ := n
  simp only at h0 h1 ht htl
  obtain ⟨W1, eW1⟩ : ∃ W1, W1 = (w.alloc (.cells #[.int .i64 op, .int .i64 int, .int .i64 na, .int .i64 nb, .string (strOf text)] 37)).alloc (.cells zero7.toArray 116) := ⟨_, rfl⟩
  have hb1 : Below w.heap.size w W1 := by rw [eW1]; exact below_new2 _ _ _
  have hl1 : Lies W1 (w.heap.size + 1) 116 zero7 := by rw [eW1]; exact Lies.new_ (by simp)
  have HB1 := Lib.hid hb1
  have HL1 := Lib.hid hl1
  have HH := Lib.hid (hH.below hb1)
  have HTX : Hid (text.length ≤ 35184372088832) := ht
  have hsz : (strOf text).size ≤ 35184372088832 := by rw [strOf_size]; exact ht
  have HTL : Hid (∀ x ∈ text, x < 256) := htl
  have HI : Hid (-9223372036854775808 ≤ int ∧ int ≤ 9223372036854775807) := ⟨h0, h1⟩
  have HW := Lib.hid eW1
  have hW := eW1
  clear hH h0 h1 ht htl hb1 hl1 eW1
  by_cases h1 : op = 1
  · subst h1
    have hQ := quote_any (strOf text) W1 (by rw [strOf_size]; exact HTX.out)
    rw [hW] at hQ
    have hLf := leaf_any
    have HFV : Hid (Ending.returned (fv7 0 (strOf (Zq.quoted text)) { data := #[] } { data := #[] } 7 0 0) = .returned (fmV (formP ⟨1, int, na, nb, text⟩))) := rfl
    clear hW
    go_enter Tryz.func97, Tryz.ntmps97
    go_wp2_with fail
    refine hQ.mono ?_
    rintro e w2 ⟨rfl, hb2⟩
    rw [numsOf_strOf HTL.out]
    clear hQ
    rw [← HW.out] at hb2
    have hC := hLf w2 (strOf (Zq.quoted text))
    have HBX0 := Lib.hid (below_more3 HB1.out hb2)
    have HLX0 := Lib.hid (HL1.out.below hb2 HL1.out.lt)
    clear hb2 hLf
    go_wp2_with fail
    refine hC.mono ?_
    rintro e w3 ⟨rfl, hb3⟩
    clear hC
    have HBX := Lib.hid (below_more3 HBX0.out hb3)
    have HLX := Lib.hid (HLX0.out.below hb3 HLX0.out.lt)
    clear hb3
    have hl2 := HLX.out
    obtain ⟨⟨z0, z1, z2, z3, z4, z5, z6⟩, g0, g1, g2, g3, g4, g5, g6⟩ := hl2.seven
    obtain ⟨⟨q0, q1, q2, q3, q4, q5, q6⟩, _⟩ := (hl2.put7 0 (strOf (Zq.quoted text)) { data := #[] } { data := #[] } 7 0 0).seven
    have HE : Hid (FmEnd (formP ⟨1, int, na, nb, text⟩) w (.returned (fv7 0 (strOf (Zq.quoted text)) { data := #[] } { data := #[] } 7 0 0)) (put7 w3 (w.heap.size + 1) 0 (strOf (Zq.quoted text)) { data := #[] } { data := #[] } 7 0 0)) := ⟨HFV.out, put7_below HBX.out (Nat.le_succ _) 0 (strOf (Zq.quoted text)) { data := #[] } { data := #[] } 7 0 0⟩
    clear hl2
    go_wp2
    exact bodyPost_ret (v := fv7 0 (strOf (Zq.quoted text)) { data := #[] } { data := #[] } 7 0 0) (by simp [results, Tryz.results97, go_sem, q0, q1, q2, q3, q4, q5, q6]) rfl HE.out
  by_cases h2 : op = 2
  · subst h2
    have hQ := zitoa_any int HI.out.1 HI.out.2 W1 HH.out
    rw [hW] at hQ
    have hLf := leaf_any
    have HFV : Hid (Ending.returned (fv7 0 (strOf (Jq.decimal int)) { data := #[] } { data := #[] } 7 0 0) = .returned (fmV (formP ⟨2, int, na, nb, text⟩))) := rfl
    clear hW
    go_enter Tryz.func97, Tryz.ntmps97
    go_wp2_with fail
    refine hQ.mono ?_
    rintro e w2 ⟨⟨s2, rfl, hs2⟩, hb2⟩
    obtain rfl := eq_strOf hs2
    clear hs2
    clear hQ
    rw [← HW.out] at hb2
    have hC := hLf w2 (strOf (Jq.decimal int))
    have HBX0 := Lib.hid (below_more3 HB1.out hb2)
    have HLX0 := Lib.hid (HL1.out.below hb2 HL1.out.lt)
    clear hb2 hLf
    go_wp2_with fail
    refine hC.mono ?_
    rintro e w3 ⟨rfl, hb3⟩
    clear hC
    have HBX := Lib.hid (below_more3 HBX0.out hb3)
    have HLX := Lib.hid (HLX0.out.below hb3 HLX0.out.lt)
    clear hb3
    have hl2 := HLX.out
    obtain ⟨⟨z0, z1, z2, z3, z4, z5, z6⟩, g0, g1, g2, g3, g4, g5, g6⟩ := hl2.seven
    obtain ⟨⟨q0, q1, q2, q3, q4, q5, q6⟩, _⟩ := (hl2.put7 0 (strOf (Jq.decimal int)) { data := #[] } { data := #[] } 7 0 0).seven
    have HE : Hid (FmEnd (formP ⟨2, int, na, nb, text⟩) w (.returned (fv7 0 (strOf (Jq.decimal int)) { data := #[] } { data := #[] } 7 0 0)) (put7 w3 (w.heap.size + 1) 0 (strOf (Jq.decimal int)) { data := #[] } { data := #[] } 7 0 0)) := ⟨HFV.out, put7_below HBX.out (Nat.le_succ _) 0 (strOf (Jq.decimal int)) { data := #[] } { data := #[] } 7 0 0⟩
    clear hl2
    go_wp2
    exact bodyPost_ret (v := fv7 0 (strOf (Jq.decimal int)) { data := #[] } { data := #[] } 7 0 0) (by simp [results, Tryz.results97, go_sem, q0, q1, q2, q3, q4, q5, q6]) rfl HE.out
  by_cases h3 : op = 3
  · subst h3
    obtain ⟨X, eX⟩ : ∃ X : ByteArray, ({ data := #[36] } : ByteArray) ++ strOf text = X := ⟨_, rfl⟩
    have HEX : Hid (X = strOf (36 :: text)) := by unfold Hid; rw [← eX]; exact strOf_append [36] text
    have hC := leaf_any W1 X
    rw [hW] at hC
    have HFV : Hid (Ending.returned (fv7 0 X { data := #[] } { data := #[] } 7 0 0) = .returned (fmV (formP ⟨3, int, na, nb, text⟩))) := by rw [HEX.out]; rfl
    clear hW
    go_enter Tryz.func97, Tryz.ntmps97
    go_wp2_with fail
    refine hC.mono ?_
    rintro e w2 ⟨rfl, hb2⟩
    clear hC
    rw [← HW.out] at hb2
    have HBX := Lib.hid (below_more3 HB1.out hb2)
    have HLX := Lib.hid (HL1.out.below hb2 HL1.out.lt)
    clear hb2
    have hl2 := HLX.out
    obtain ⟨⟨z0, z1, z2, z3, z4, z5, z6⟩, g0, g1, g2, g3, g4, g5, g6⟩ := hl2.seven
    obtain ⟨⟨q0, q1, q2, q3, q4, q5, q6⟩, _⟩ := (hl2.put7 0 X { data := #[] } { data := #[] } 7 0 0).seven
    have HE : Hid (FmEnd (formP ⟨3, int, na, nb, text⟩) w (.returned (fv7 0 X { data := #[] } { data := #[] } 7 0 0)) (put7 w2 (w.heap.size + 1) 0 X { data := #[] } { data := #[] } 7 0 0)) := ⟨HFV.out, put7_below HBX.out (Nat.le_succ _) 0 X { data := #[] } { data := #[] } 7 0 0⟩
    clear hl2
    go_wp2
    exact bodyPost_ret (v := fv7 0 X { data := #[] } { data := #[] } 7 0 0) (by simp [results, Tryz.results97, go_sem, q0, q1, q2, q3, q4, q5, q6]) rfl HE.out
  by_cases h4 : op = 4
  · subst h4
    obtain ⟨X, eX⟩ : ∃ X : ByteArray, ({ data := #[104, 97, 115, 40, 36] } : ByteArray) ++ strOf text ++ ({ data := #[41] } : ByteArray) = X := ⟨_, rfl⟩
    have HEX : Hid (X = strOf (Zq.wHas ++ 40 :: 36 :: text ++ [41])) := by unfold Hid; rw [← eX]; exact (congrArg (· ++ strOf [41]) (strOf_append [104, 97, 115, 40, 36] text)).trans (strOf_append _ [41])
    have hC := leaf_any W1 X
    rw [hW] at hC
    have HFV : Hid (Ending.returned (fv7 0 X { data := #[] } { data := #[] } 7 0 0) = .returned (fmV (formP ⟨4, int, na, nb, text⟩))) := by rw [HEX.out]; rfl
    clear hW
    go_enter Tryz.func97, Tryz.ntmps97
    go_wp2_with fail
    refine hC.mono ?_
    rintro e w2 ⟨rfl, hb2⟩
    clear hC
    rw [← HW.out] at hb2
    have HBX := Lib.hid (below_more3 HB1.out hb2)
    have HLX := Lib.hid (HL1.out.below hb2 HL1.out.lt)
    clear hb2
    have hl2 := HLX.out
    obtain ⟨⟨z0, z1, z2, z3, z4, z5, z6⟩, g0, g1, g2, g3, g4, g5, g6⟩ := hl2.seven
    obtain ⟨⟨q0, q1, q2, q3, q4, q5, q6⟩, _⟩ := (hl2.put7 0 X { data := #[] } { data := #[] } 7 0 0).seven
    have HE : Hid (FmEnd (formP ⟨4, int, na, nb, text⟩) w (.returned (fv7 0 X { data := #[] } { data := #[] } 7 0 0)) (put7 w2 (w.heap.size + 1) 0 X { data := #[] } { data := #[] } 7 0 0)) := ⟨HFV.out, put7_below HBX.out (Nat.le_succ _) 0 X { data := #[] } { data := #[] } 7 0 0⟩
    clear hl2
    go_wp2
    exact bodyPost_ret (v := fv7 0 X { data := #[] } { data := #[] } 7 0 0) (by simp [results, Tryz.results97, go_sem, q0, q1, q2, q3, q4, q5, q6]) rfl HE.out
  by_cases h5 : op = 5
  · subst h5
    have hC := chained_any W1 { data := #[32, 43, 32] } 5 (by decide) (by decide)
    rw [hW] at hC
    have HFV : Hid (Ending.returned (fv7 2 { data := #[] } { data := #[32, 43, 32] } { data := #[] } 5 5 6) = .returned (fmV (formP ⟨5, int, na, nb, text⟩))) := rfl
    clear hW
    go_enter Tryz.func97, Tryz.ntmps97
    go_wp2_with fail
    refine hC.mono ?_
    rintro e w2 ⟨rfl, hb2⟩
    clear hC
    rw [← HW.out] at hb2
    have HBX := Lib.hid (below_more3 HB1.out hb2)
    have HLX := Lib.hid (HL1.out.below hb2 HL1.out.lt)
    clear hb2
    have hl2 := HLX.out
    obtain ⟨⟨z0, z1, z2, z3, z4, z5, z6⟩, g0, g1, g2, g3, g4, g5, g6⟩ := hl2.seven
    obtain ⟨⟨q0, q1, q2, q3, q4, q5, q6⟩, _⟩ := (hl2.put7 2 { data := #[] } { data := #[32, 43, 32] } { data := #[] } 5 5 6).seven
    have HE : Hid (FmEnd (formP ⟨5, int, na, nb, text⟩) w (.returned (fv7 2 { data := #[] } { data := #[32, 43, 32] } { data := #[] } 5 5 6)) (put7 w2 (w.heap.size + 1) 2 { data := #[] } { data := #[32, 43, 32] } { data := #[] } 5 5 6)) := ⟨HFV.out, put7_below HBX.out (Nat.le_succ _) 2 { data := #[] } { data := #[32, 43, 32] } { data := #[] } 5 5 6⟩
    clear hl2
    go_wp2
    exact bodyPost_ret (v := fv7 2 { data := #[] } { data := #[32, 43, 32] } { data := #[] } 5 5 6) (by simp [results, Tryz.results97, go_sem, q0, q1, q2, q3, q4, q5, q6]) rfl HE.out
  by_cases h6 : op = 6
  · subst h6
    have hC := function_any W1 1 { data := #[108, 111, 119, 101, 114] } (by decide)
    rw [show ({ data := #[108, 111, 119, 101, 114] } : ByteArray) ++ { data := #[40] } = { data := #[108, 111, 119, 101, 114, 40] } from rfl] at hC
    rw [hW] at hC
    have HFV : Hid (Ending.returned (fv7 1 { data := #[108, 111, 119, 101, 114, 40] } { data := #[44, 32] } { data := #[41] } 7 0 0) = .returned (fmV (formP ⟨6, int, na, nb, text⟩))) := rfl
    clear hW
    go_enter Tryz.func97, Tryz.ntmps97
    go_wp2_with fail
    refine hC.mono ?_
    rintro e w2 ⟨rfl, hb2⟩
    clear hC
    rw [← HW.out] at hb2
    have HBX := Lib.hid (below_more3 HB1.out hb2)
    have HLX := Lib.hid (HL1.out.below hb2 HL1.out.lt)
    clear hb2
    have hl2 := HLX.out
    obtain ⟨⟨z0, z1, z2, z3, z4, z5, z6⟩, g0, g1, g2, g3, g4, g5, g6⟩ := hl2.seven
    obtain ⟨⟨q0, q1, q2, q3, q4, q5, q6⟩, _⟩ := (hl2.put7 1 { data := #[108, 111, 119, 101, 114, 40] } { data := #[44, 32] } { data := #[41] } 7 0 0).seven
    have HE : Hid (FmEnd (formP ⟨6, int, na, nb, text⟩) w (.returned (fv7 1 { data := #[108, 111, 119, 101, 114, 40] } { data := #[44, 32] } { data := #[41] } 7 0 0)) (put7 w2 (w.heap.size + 1) 1 { data := #[108, 111, 119, 101, 114, 40] } { data := #[44, 32] } { data := #[41] } 7 0 0)) := ⟨HFV.out, put7_below HBX.out (Nat.le_succ _) 1 { data := #[108, 111, 119, 101, 114, 40] } { data := #[44, 32] } { data := #[41] } 7 0 0⟩
    clear hl2
    go_wp2
    exact bodyPost_ret (v := fv7 1 { data := #[108, 111, 119, 101, 114, 40] } { data := #[44, 32] } { data := #[41] } 7 0 0) (by simp [results, Tryz.results97, go_sem, q0, q1, q2, q3, q4, q5, q6]) rfl HE.out
  by_cases h7 : op = 7
  · subst h7
    have hC := function_any W1 1 { data := #[102, 105, 114, 115, 116] } (by decide)
    rw [show ({ data := #[102, 105, 114, 115, 116] } : ByteArray) ++ { data := #[40] } = { data := #[102, 105, 114, 115, 116, 40] } from rfl] at hC
    rw [hW] at hC
    have HFV : Hid (Ending.returned (fv7 1 { data := #[102, 105, 114, 115, 116, 40] } { data := #[44, 32] } { data := #[41] } 7 0 0) = .returned (fmV (formP ⟨7, int, na, nb, text⟩))) := rfl
    clear hW
    go_enter Tryz.func97, Tryz.ntmps97
    go_wp2_with fail
    refine hC.mono ?_
    rintro e w2 ⟨rfl, hb2⟩
    clear hC
    rw [← HW.out] at hb2
    have HBX := Lib.hid (below_more3 HB1.out hb2)
    have HLX := Lib.hid (HL1.out.below hb2 HL1.out.lt)
    clear hb2
    have hl2 := HLX.out
    obtain ⟨⟨z0, z1, z2, z3, z4, z5, z6⟩, g0, g1, g2, g3, g4, g5, g6⟩ := hl2.seven
    obtain ⟨⟨q0, q1, q2, q3, q4, q5, q6⟩, _⟩ := (hl2.put7 1 { data := #[102, 105, 114, 115, 116, 40] } { data := #[44, 32] } { data := #[41] } 7 0 0).seven
    have HE : Hid (FmEnd (formP ⟨7, int, na, nb, text⟩) w (.returned (fv7 1 { data := #[102, 105, 114, 115, 116, 40] } { data := #[44, 32] } { data := #[41] } 7 0 0)) (put7 w2 (w.heap.size + 1) 1 { data := #[102, 105, 114, 115, 116, 40] } { data := #[44, 32] } { data := #[41] } 7 0 0)) := ⟨HFV.out, put7_below HBX.out (Nat.le_succ _) 1 { data := #[102, 105, 114, 115, 116, 40] } { data := #[44, 32] } { data := #[41] } 7 0 0⟩
    clear hl2
    go_wp2
    exact bodyPost_ret (v := fv7 1 { data := #[102, 105, 114, 115, 116, 40] } { data := #[44, 32] } { data := #[41] } 7 0 0) (by simp [results, Tryz.results97, go_sem, q0, q1, q2, q3, q4, q5, q6]) rfl HE.out
  by_cases h8 : op = 8
  · subst h8
    have hC := function_any W1 1 { data := #[104, 101, 97, 100] } (by decide)
    rw [show ({ data := #[104, 101, 97, 100] } : ByteArray) ++ { data := #[40] } = { data := #[104, 101, 97, 100, 40] } from rfl] at hC
    rw [hW] at hC
    have HFV : Hid (Ending.returned (fv7 1 { data := #[104, 101, 97, 100, 40] } { data := #[44, 32] } { data := #[41] } 7 0 0) = .returned (fmV (formP ⟨8, int, na, nb, text⟩))) := rfl
    clear hW
    go_enter Tryz.func97, Tryz.ntmps97
    go_wp2_with fail
    refine hC.mono ?_
    rintro e w2 ⟨rfl, hb2⟩
    clear hC
    rw [← HW.out] at hb2
    have HBX := Lib.hid (below_more3 HB1.out hb2)
    have HLX := Lib.hid (HL1.out.below hb2 HL1.out.lt)
    clear hb2
    have hl2 := HLX.out
    obtain ⟨⟨z0, z1, z2, z3, z4, z5, z6⟩, g0, g1, g2, g3, g4, g5, g6⟩ := hl2.seven
    obtain ⟨⟨q0, q1, q2, q3, q4, q5, q6⟩, _⟩ := (hl2.put7 1 { data := #[104, 101, 97, 100, 40] } { data := #[44, 32] } { data := #[41] } 7 0 0).seven
    have HE : Hid (FmEnd (formP ⟨8, int, na, nb, text⟩) w (.returned (fv7 1 { data := #[104, 101, 97, 100, 40] } { data := #[44, 32] } { data := #[41] } 7 0 0)) (put7 w2 (w.heap.size + 1) 1 { data := #[104, 101, 97, 100, 40] } { data := #[44, 32] } { data := #[41] } 7 0 0)) := ⟨HFV.out, put7_below HBX.out (Nat.le_succ _) 1 { data := #[104, 101, 97, 100, 40] } { data := #[44, 32] } { data := #[41] } 7 0 0⟩
    clear hl2
    go_wp2
    exact bodyPost_ret (v := fv7 1 { data := #[104, 101, 97, 100, 40] } { data := #[44, 32] } { data := #[41] } 7 0 0) (by simp [results, Tryz.results97, go_sem, q0, q1, q2, q3, q4, q5, q6]) rfl HE.out
  by_cases h9 : op = 9
  · subst h9
    have hC := function_any W1 1 { data := #[116, 97, 105, 108] } (by decide)
    rw [show ({ data := #[116, 97, 105, 108] } : ByteArray) ++ { data := #[40] } = { data := #[116, 97, 105, 108, 40] } from rfl] at hC
    rw [hW] at hC
    have HFV : Hid (Ending.returned (fv7 1 { data := #[116, 97, 105, 108, 40] } { data := #[44, 32] } { data := #[41] } 7 0 0) = .returned (fmV (formP ⟨9, int, na, nb, text⟩))) := rfl
    clear hW
    go_enter Tryz.func97, Tryz.ntmps97
    go_wp2_with fail
    refine hC.mono ?_
    rintro e w2 ⟨rfl, hb2⟩
    clear hC
    rw [← HW.out] at hb2
    have HBX := Lib.hid (below_more3 HB1.out hb2)
    have HLX := Lib.hid (HL1.out.below hb2 HL1.out.lt)
    clear hb2
    have hl2 := HLX.out
    obtain ⟨⟨z0, z1, z2, z3, z4, z5, z6⟩, g0, g1, g2, g3, g4, g5, g6⟩ := hl2.seven
    obtain ⟨⟨q0, q1, q2, q3, q4, q5, q6⟩, _⟩ := (hl2.put7 1 { data := #[116, 97, 105, 108, 40] } { data := #[44, 32] } { data := #[41] } 7 0 0).seven
    have HE : Hid (FmEnd (formP ⟨9, int, na, nb, text⟩) w (.returned (fv7 1 { data := #[116, 97, 105, 108, 40] } { data := #[44, 32] } { data := #[41] } 7 0 0)) (put7 w2 (w.heap.size + 1) 1 { data := #[116, 97, 105, 108, 40] } { data := #[44, 32] } { data := #[41] } 7 0 0)) := ⟨HFV.out, put7_below HBX.out (Nat.le_succ _) 1 { data := #[116, 97, 105, 108, 40] } { data := #[44, 32] } { data := #[41] } 7 0 0⟩
    clear hl2
    go_wp2
    exact bodyPost_ret (v := fv7 1 { data := #[116, 97, 105, 108, 40] } { data := #[44, 32] } { data := #[41] } 7 0 0) (by simp [results, Tryz.results97, go_sem, q0, q1, q2, q3, q4, q5, q6]) rfl HE.out
  by_cases h10 : op = 10
  · subst h10
    have hC := compared_any W1 { data := #[32, 61, 61, 32] }
    rw [hW] at hC
    have HFV : Hid (Ending.returned (fv7 2 { data := #[] } { data := #[32, 61, 61, 32] } { data := #[] } 4 5 5) = .returned (fmV (formP ⟨10, int, na, nb, text⟩))) := rfl
    clear hW
    go_enter Tryz.func97, Tryz.ntmps97
    go_wp2_with fail
    refine hC.mono ?_
    rintro e w2 ⟨rfl, hb2⟩
    clear hC
    rw [← HW.out] at hb2
    have HBX := Lib.hid (below_more3 HB1.out hb2)
    have HLX := Lib.hid (HL1.out.below hb2 HL1.out.lt)
    clear hb2
    have hl2 := HLX.out
    obtain ⟨⟨z0, z1, z2, z3, z4, z5, z6⟩, g0, g1, g2, g3, g4, g5, g6⟩ := hl2.seven
    obtain ⟨⟨q0, q1, q2, q3, q4, q5, q6⟩, _⟩ := (hl2.put7 2 { data := #[] } { data := #[32, 61, 61, 32] } { data := #[] } 4 5 5).seven
    have HE : Hid (FmEnd (formP ⟨10, int, na, nb, text⟩) w (.returned (fv7 2 { data := #[] } { data := #[32, 61, 61, 32] } { data := #[] } 4 5 5)) (put7 w2 (w.heap.size + 1) 2 { data := #[] } { data := #[32, 61, 61, 32] } { data := #[] } 4 5 5)) := ⟨HFV.out, put7_below HBX.out (Nat.le_succ _) 2 { data := #[] } { data := #[32, 61, 61, 32] } { data := #[] } 4 5 5⟩
    clear hl2
    go_wp2
    exact bodyPost_ret (v := fv7 2 { data := #[] } { data := #[32, 61, 61, 32] } { data := #[] } 4 5 5) (by simp [results, Tryz.results97, go_sem, q0, q1, q2, q3, q4, q5, q6]) rfl HE.out
  by_cases h11 : op = 11
  · subst h11
    have hC := compared_any W1 { data := #[32, 60, 32] }
    rw [hW] at hC
    have HFV : Hid (Ending.returned (fv7 2 { data := #[] } { data := #[32, 60, 32] } { data := #[] } 4 5 5) = .returned (fmV (formP ⟨11, int, na, nb, text⟩))) := rfl
    clear hW
    go_enter Tryz.func97, Tryz.ntmps97
    go_wp2_with fail
    refine hC.mono ?_
    rintro e w2 ⟨rfl, hb2⟩
    clear hC
    rw [← HW.out] at hb2
    have HBX := Lib.hid (below_more3 HB1.out hb2)
    have HLX := Lib.hid (HL1.out.below hb2 HL1.out.lt)
    clear hb2
    have hl2 := HLX.out
    obtain ⟨⟨z0, z1, z2, z3, z4, z5, z6⟩, g0, g1, g2, g3, g4, g5, g6⟩ := hl2.seven
    obtain ⟨⟨q0, q1, q2, q3, q4, q5, q6⟩, _⟩ := (hl2.put7 2 { data := #[] } { data := #[32, 60, 32] } { data := #[] } 4 5 5).seven
    have HE : Hid (FmEnd (formP ⟨11, int, na, nb, text⟩) w (.returned (fv7 2 { data := #[] } { data := #[32, 60, 32] } { data := #[] } 4 5 5)) (put7 w2 (w.heap.size + 1) 2 { data := #[] } { data := #[32, 60, 32] } { data := #[] } 4 5 5)) := ⟨HFV.out, put7_below HBX.out (Nat.le_succ _) 2 { data := #[] } { data := #[32, 60, 32] } { data := #[] } 4 5 5⟩
    clear hl2
    go_wp2
    exact bodyPost_ret (v := fv7 2 { data := #[] } { data := #[32, 60, 32] } { data := #[] } 4 5 5) (by simp [results, Tryz.results97, go_sem, q0, q1, q2, q3, q4, q5, q6]) rfl HE.out
  by_cases h12 : op = 12
  · subst h12
    have hC := compared_any W1 { data := #[32, 105, 110, 32] }
    rw [hW] at hC
    have HFV : Hid (Ending.returned (fv7 2 { data := #[] } { data := #[32, 105, 110, 32] } { data := #[] } 4 5 5) = .returned (fmV (formP ⟨12, int, na, nb, text⟩))) := rfl
    clear hW
    go_enter Tryz.func97, Tryz.ntmps97
    go_wp2_with fail
    refine hC.mono ?_
    rintro e w2 ⟨rfl, hb2⟩
    clear hC
    rw [← HW.out] at hb2
    have HBX := Lib.hid (below_more3 HB1.out hb2)
    have HLX := Lib.hid (HL1.out.below hb2 HL1.out.lt)
    clear hb2
    have hl2 := HLX.out
    obtain ⟨⟨z0, z1, z2, z3, z4, z5, z6⟩, g0, g1, g2, g3, g4, g5, g6⟩ := hl2.seven
    obtain ⟨⟨q0, q1, q2, q3, q4, q5, q6⟩, _⟩ := (hl2.put7 2 { data := #[] } { data := #[32, 105, 110, 32] } { data := #[] } 4 5 5).seven
    have HE : Hid (FmEnd (formP ⟨12, int, na, nb, text⟩) w (.returned (fv7 2 { data := #[] } { data := #[32, 105, 110, 32] } { data := #[] } 4 5 5)) (put7 w2 (w.heap.size + 1) 2 { data := #[] } { data := #[32, 105, 110, 32] } { data := #[] } 4 5 5)) := ⟨HFV.out, put7_below HBX.out (Nat.le_succ _) 2 { data := #[] } { data := #[32, 105, 110, 32] } { data := #[] } 4 5 5⟩
    clear hl2
    go_wp2
    exact bodyPost_ret (v := fv7 2 { data := #[] } { data := #[32, 105, 110, 32] } { data := #[] } 4 5 5) (by simp [results, Tryz.results97, go_sem, q0, q1, q2, q3, q4, q5, q6]) rfl HE.out
  by_cases h13 : op = 13
  · subst h13
    have HFV : Hid (Ending.returned (fv7 1 { data := #[110, 111, 116, 32] } { data := #[] } { data := #[] } 3 3 0) = .returned (fmV (formP ⟨13, int, na, nb, text⟩))) := rfl
    have HX : Hid (Below w.heap.size w ((w.alloc (.cells #[.int .i64 13, .int .i64 int, .int .i64 na, .int .i64 nb, .string (strOf text)] 37)).alloc (.cells #[.int .i64 1, .string { data := #[110, 111, 116, 32] }, .string { data := #[] }, .string { data := #[] }, .int .i64 3, .int .i64 3, .int .i64 0] 116))) := below_new2 _ _ _
    clear hW
    go_enter Tryz.func97, Tryz.ntmps97
    go_wp2
    exact bodyPost_ret (v := fv7 1 { data := #[110, 111, 116, 32] } { data := #[] } { data := #[] } 3 3 0) (by simp [results, Tryz.results97, go_sem]) rfl ⟨HFV.out, HX.out⟩
  by_cases h14 : op = 14
  · subst h14
    have hC := chained_any W1 { data := #[32, 97, 110, 100, 32] } 2 (by decide) (by decide)
    rw [hW] at hC
    have HFV : Hid (Ending.returned (fv7 2 { data := #[] } { data := #[32, 97, 110, 100, 32] } { data := #[] } 2 2 3) = .returned (fmV (formP ⟨14, int, na, nb, text⟩))) := rfl
    clear hW
    go_enter Tryz.func97, Tryz.ntmps97
    go_wp2_with fail
    refine hC.mono ?_
    rintro e w2 ⟨rfl, hb2⟩
    clear hC
    rw [← HW.out] at hb2
    have HBX := Lib.hid (below_more3 HB1.out hb2)
    have HLX := Lib.hid (HL1.out.below hb2 HL1.out.lt)
    clear hb2
    have hl2 := HLX.out
    obtain ⟨⟨z0, z1, z2, z3, z4, z5, z6⟩, g0, g1, g2, g3, g4, g5, g6⟩ := hl2.seven
    obtain ⟨⟨q0, q1, q2, q3, q4, q5, q6⟩, _⟩ := (hl2.put7 2 { data := #[] } { data := #[32, 97, 110, 100, 32] } { data := #[] } 2 2 3).seven
    have HE : Hid (FmEnd (formP ⟨14, int, na, nb, text⟩) w (.returned (fv7 2 { data := #[] } { data := #[32, 97, 110, 100, 32] } { data := #[] } 2 2 3)) (put7 w2 (w.heap.size + 1) 2 { data := #[] } { data := #[32, 97, 110, 100, 32] } { data := #[] } 2 2 3)) := ⟨HFV.out, put7_below HBX.out (Nat.le_succ _) 2 { data := #[] } { data := #[32, 97, 110, 100, 32] } { data := #[] } 2 2 3⟩
    clear hl2
    go_wp2
    exact bodyPost_ret (v := fv7 2 { data := #[] } { data := #[32, 97, 110, 100, 32] } { data := #[] } 2 2 3) (by simp [results, Tryz.results97, go_sem, q0, q1, q2, q3, q4, q5, q6]) rfl HE.out
  by_cases h15 : op = 15
  · subst h15
    have hC := chained_any W1 { data := #[32, 111, 114, 32] } 1 (by decide) (by decide)
    rw [hW] at hC
    have HFV : Hid (Ending.returned (fv7 2 { data := #[] } { data := #[32, 111, 114, 32] } { data := #[] } 1 1 2) = .returned (fmV (formP ⟨15, int, na, nb, text⟩))) := rfl
    clear hW
    go_enter Tryz.func97, Tryz.ntmps97
    go_wp2_with fail
    refine hC.mono ?_
    rintro e w2 ⟨rfl, hb2⟩
    clear hC
    rw [← HW.out] at hb2
    have HBX := Lib.hid (below_more3 HB1.out hb2)
    have HLX := Lib.hid (HL1.out.below hb2 HL1.out.lt)
    clear hb2
    have hl2 := HLX.out
    obtain ⟨⟨z0, z1, z2, z3, z4, z5, z6⟩, g0, g1, g2, g3, g4, g5, g6⟩ := hl2.seven
    obtain ⟨⟨q0, q1, q2, q3, q4, q5, q6⟩, _⟩ := (hl2.put7 2 { data := #[] } { data := #[32, 111, 114, 32] } { data := #[] } 1 1 2).seven
    have HE : Hid (FmEnd (formP ⟨15, int, na, nb, text⟩) w (.returned (fv7 2 { data := #[] } { data := #[32, 111, 114, 32] } { data := #[] } 1 1 2)) (put7 w2 (w.heap.size + 1) 2 { data := #[] } { data := #[32, 111, 114, 32] } { data := #[] } 1 1 2)) := ⟨HFV.out, put7_below HBX.out (Nat.le_succ _) 2 { data := #[] } { data := #[32, 111, 114, 32] } { data := #[] } 1 1 2⟩
    clear hl2
    go_wp2
    exact bodyPost_ret (v := fv7 2 { data := #[] } { data := #[32, 111, 114, 32] } { data := #[] } 1 1 2) (by simp [results, Tryz.results97, go_sem, q0, q1, q2, q3, q4, q5, q6]) rfl HE.out
  by_cases h16 : op = 16
  · subst h16
    have hC := chained_any W1 { data := #[32, 101, 108, 115, 101, 32] } 6 (by decide) (by decide)
    rw [hW] at hC
    have HFV : Hid (Ending.returned (fv7 2 { data := #[] } { data := #[32, 101, 108, 115, 101, 32] } { data := #[] } 6 6 7) = .returned (fmV (formP ⟨16, int, na, nb, text⟩))) := rfl
    clear hW
    go_enter Tryz.func97, Tryz.ntmps97
    go_wp2_with fail
    refine hC.mono ?_
    rintro e w2 ⟨rfl, hb2⟩
    clear hC
    rw [← HW.out] at hb2
    have HBX := Lib.hid (below_more3 HB1.out hb2)
    have HLX := Lib.hid (HL1.out.below hb2 HL1.out.lt)
    clear hb2
    have hl2 := HLX.out
    obtain ⟨⟨z0, z1, z2, z3, z4, z5, z6⟩, g0, g1, g2, g3, g4, g5, g6⟩ := hl2.seven
    obtain ⟨⟨q0, q1, q2, q3, q4, q5, q6⟩, _⟩ := (hl2.put7 2 { data := #[] } { data := #[32, 101, 108, 115, 101, 32] } { data := #[] } 6 6 7).seven
    have HE : Hid (FmEnd (formP ⟨16, int, na, nb, text⟩) w (.returned (fv7 2 { data := #[] } { data := #[32, 101, 108, 115, 101, 32] } { data := #[] } 6 6 7)) (put7 w2 (w.heap.size + 1) 2 { data := #[] } { data := #[32, 101, 108, 115, 101, 32] } { data := #[] } 6 6 7)) := ⟨HFV.out, put7_below HBX.out (Nat.le_succ _) 2 { data := #[] } { data := #[32, 101, 108, 115, 101, 32] } { data := #[] } 6 6 7⟩
    clear hl2
    go_wp2
    exact bodyPost_ret (v := fv7 2 { data := #[] } { data := #[32, 101, 108, 115, 101, 32] } { data := #[] } 6 6 7) (by simp [results, Tryz.results97, go_sem, q0, q1, q2, q3, q4, q5, q6]) rfl HE.out
  by_cases h17 : op = 17
  · subst h17
    have hC := function_any W1 2 { data := #[115, 116, 97, 114, 116, 115] } (by decide)
    rw [show ({ data := #[115, 116, 97, 114, 116, 115] } : ByteArray) ++ { data := #[40] } = { data := #[115, 116, 97, 114, 116, 115, 40] } from rfl] at hC
    rw [hW] at hC
    have HFV : Hid (Ending.returned (fv7 2 { data := #[115, 116, 97, 114, 116, 115, 40] } { data := #[44, 32] } { data := #[41] } 7 0 0) = .returned (fmV (formP ⟨17, int, na, nb, text⟩))) := rfl
    clear hW
    go_enter Tryz.func97, Tryz.ntmps97
    go_wp2_with fail
    refine hC.mono ?_
    rintro e w2 ⟨rfl, hb2⟩
    clear hC
    rw [← HW.out] at hb2
    have HBX := Lib.hid (below_more3 HB1.out hb2)
    have HLX := Lib.hid (HL1.out.below hb2 HL1.out.lt)
    clear hb2
    have hl2 := HLX.out
    obtain ⟨⟨z0, z1, z2, z3, z4, z5, z6⟩, g0, g1, g2, g3, g4, g5, g6⟩ := hl2.seven
    obtain ⟨⟨q0, q1, q2, q3, q4, q5, q6⟩, _⟩ := (hl2.put7 2 { data := #[115, 116, 97, 114, 116, 115, 40] } { data := #[44, 32] } { data := #[41] } 7 0 0).seven
    have HE : Hid (FmEnd (formP ⟨17, int, na, nb, text⟩) w (.returned (fv7 2 { data := #[115, 116, 97, 114, 116, 115, 40] } { data := #[44, 32] } { data := #[41] } 7 0 0)) (put7 w2 (w.heap.size + 1) 2 { data := #[115, 116, 97, 114, 116, 115, 40] } { data := #[44, 32] } { data := #[41] } 7 0 0)) := ⟨HFV.out, put7_below HBX.out (Nat.le_succ _) 2 { data := #[115, 116, 97, 114, 116, 115, 40] } { data := #[44, 32] } { data := #[41] } 7 0 0⟩
    clear hl2
    go_wp2
    exact bodyPost_ret (v := fv7 2 { data := #[115, 116, 97, 114, 116, 115, 40] } { data := #[44, 32] } { data := #[41] } 7 0 0) (by simp [results, Tryz.results97, go_sem, q0, q1, q2, q3, q4, q5, q6]) rfl HE.out
  have b1 : (op == 1) = false := beq_eq_false_iff_ne.2 h1
  have b2 : (op == 2) = false := beq_eq_false_iff_ne.2 h2
  have b3 : (op == 3) = false := beq_eq_false_iff_ne.2 h3
  have b4 : (op == 4) = false := beq_eq_false_iff_ne.2 h4
  have b5 : (op == 5) = false := beq_eq_false_iff_ne.2 h5
  have b6 : (op == 6) = false := beq_eq_false_iff_ne.2 h6
  have b7 : (op == 7) = false := beq_eq_false_iff_ne.2 h7
  have b8 : (op == 8) = false := beq_eq_false_iff_ne.2 h8
  have b9 : (op == 9) = false := beq_eq_false_iff_ne.2 h9
  have b10 : (op == 10) = false := beq_eq_false_iff_ne.2 h10
  have b11 : (op == 11) = false := beq_eq_false_iff_ne.2 h11
  have b12 : (op == 12) = false := beq_eq_false_iff_ne.2 h12
  have b13 : (op == 13) = false := beq_eq_false_iff_ne.2 h13
  have b14 : (op == 14) = false := beq_eq_false_iff_ne.2 h14
  have b15 : (op == 15) = false := beq_eq_false_iff_ne.2 h15
  have b16 : (op == 16) = false := beq_eq_false_iff_ne.2 h16
  have b17 : (op == 17) = false := beq_eq_false_iff_ne.2 h17
  have hC := leaf_any W1 { data := #[63] }
  rw [hW] at hC
  have HFV : Hid (Ending.returned (fv7 0 { data := #[63] } { data := #[] } { data := #[] } 7 0 0) = .returned (fmV (formP ⟨op, int, na, nb, text⟩))) := by unfold Hid formP; dsimp only; rw [if_neg h1, if_neg h2, if_neg h3, if_neg h4, if_neg h5, if_neg h6, if_neg h7, if_neg h8, if_neg h9, if_neg h10, if_neg h11, if_neg h12, if_neg h13, if_neg h14, if_neg h15, if_neg h16, if_neg h17]; rfl
  clear hW h1 h2 h3 h4 h5 h6 h7 h8 h9 h10 h11 h12 h13 h14 h15 h16 h17
  go_enter Tryz.func97, Tryz.ntmps97
  go_wp2_with fail
  refine hC.mono ?_
  rintro e w2 ⟨rfl, hb2⟩
  clear hC
  rw [← HW.out] at hb2
  have HBX := Lib.hid (below_more3 HB1.out hb2)
  have HLX := Lib.hid (HL1.out.below hb2 HL1.out.lt)
  clear hb2
  have hl2 := HLX.out
  obtain ⟨⟨z0, z1, z2, z3, z4, z5, z6⟩, g0, g1, g2, g3, g4, g5, g6⟩ := hl2.seven
  obtain ⟨⟨q0, q1, q2, q3, q4, q5, q6⟩, _⟩ := (hl2.put7 0 { data := #[63] } { data := #[] } { data := #[] } 7 0 0).seven
  have HE : Hid (FmEnd (formP ⟨op, int, na, nb, text⟩) w (.returned (fv7 0 { data := #[63] } { data := #[] } { data := #[] } 7 0 0)) (put7 w2 (w.heap.size + 1) 0 { data := #[63] } { data := #[] } { data := #[] } 7 0 0)) := ⟨HFV.out, put7_below HBX.out (Nat.le_succ _) 0 { data := #[63] } { data := #[] } { data := #[] } 7 0 0⟩
  clear hl2
  go_wp2
  exact bodyPost_ret (v := fv7 0 { data := #[63] } { data := #[] } { data := #[] } 7 0 0) (by simp [results, Tryz.results97, go_sem, q0, q1, q2, q3, q4, q5, q6]) rfl HE.out
end Go.Proofs.YthhlmalpelgpeaaGreatDoor
