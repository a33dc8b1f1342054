/-
  The document's Print: node, starts.
-/
import Derived.Test.YthhlmalpelgpeaaGreatDoorZZNf
import Derived.Deep.DeepCutAuto
namespace Go.Proofs.YthhlmalpelgpeaaGreatDoor
open Go.RowKit

set_option maxHeartbeats 800000 in
set_option maxRecDepth 100000 in
theorem node_starts {l : List Zq.Nd} {ok : Nat → Prop} (i : Nat) (xi xa xb : Int) (xt : List Nat) (D : Int) (q : List Nat) (A A2 : Option Addr) (c n c2 m : Nat) (w : World) (hx : l[i]? = some ⟨17, xi, xa, xb, xt⟩) (hD : 0 ≤ D ∧ D ≤ 63) (h4 : n ≤ 4096) (hq : ArgIs w A c q) (hn : q.length = n) (hN : NsE w ok (.slice A2 m c2) l) (hm : l.length = m) (hKA : (decide (0 ≤ xa) && decide (xa < (i : Int))) = true) (hKB : (decide (0 ≤ xb) && decide (xb < (i : Int))) = true) {d : Nat} (hnd : NodeD l d) (a : Nat) (hxa : xa = (a : Int)) (hai : a < i) (b2 : Nat) (hxb : xb = (b2 : Int)) (hbi : b2 < i) (hDd : D + 1 = 64 - (d : Int)) :
    Calls Tryz.prog 28 #[.slice A n c, .slice A2 m c2, .int .i64 (i : Int), .int .i64 D] w (BsEnd q (Zq.wStarts ++ 40 :: Zq.node l d a ++ 44 :: 32 :: Zq.node l d b2 ++ [41]) w) := by
  have hi : i < m := by rw [← hm]; exact (List.getElem?_eq_some_iff.1 hx).1
  have hm63 : m ≤ 9223372036854775807 := by
    obtain ⟨_, _, e, h1, h2, _⟩ := hN
    injection e with _ e2 e3
    omega
  obtain ⟨b, off, x', rfl, _, _, hx', hxt, s0, s1, s2, s3, s4⟩ := hN.elem (i := i) (by rw [hm]; exact hi)
  rw [hx] at hx'
  injection hx' with hx'
  subst hx'
  simp only at hxt s0 s1 s2 s3 s4
  obtain ⟨hD0, hD1⟩ := hD
  have g64 : (D == 64) = false := beq_false_of_ne (by omega)
  have g64' : decide (D = 64) = false := decide_eq_false (by omega)
  have g4 : decide ((4096 : Int) < (n : Int)) = false := decide_eq_false (by omega)
  obtain ⟨W1, eW1⟩ : ∃ W1, W1 = w.alloc (.cells #[.int .i64 17, .int .i64 xi, .int .i64 xa, .int .i64 xb, .string (strOf xt)] 37) := ⟨_, rfl⟩
  have hb1 : Below w.heap.size w W1 := by rw [eW1]; exact box_below _ _
  have hl1 : Lies W1 w.heap.size 37 (ncell ⟨17, xi, xa, xb, xt⟩) := by rw [eW1]; exact Lies.new_ rfl
  have HCELL : Hid (∀ W, Below W1.heap.size W1 W → W.cell? ⟨w.heap.size, 0, none⟩ = some (.int .i64 17) ∧ W.cell? ⟨w.heap.size, 1, none⟩ = some (.int .i64 xi) ∧ W.cell? ⟨w.heap.size, 2, none⟩ = some (.int .i64 xa) ∧ W.cell? ⟨w.heap.size, 3, none⟩ = some (.int .i64 xb) ∧ W.cell? ⟨w.heap.size, 4, none⟩ = some (.string (strOf xt))) := fun W hW => by
    have h := hl1.below hW hl1.lt
    exact ⟨h.cell 0, h.cell 1, h.cell 2, h.cell 3, h.cell 4⟩
  have HB1 := Lib.hid hb1
  have HQ : Hid (∀ W, Below W1.heap.size W1 W → ArgIs W A c q) := fun W hW => (hq.below hb1 (Nat.le_refl _)).below hW (Nat.le_refl _)
  have HNQ := Lib.hid hn
  have HNUM : Hid (numsOf (strOf xt) = xt) := numsOf_strOf hxt
  have HW1 := Lib.hid eW1
  obtain ⟨z0, z1, z2, z3, z4⟩ := HCELL.out W1 (Below.refl _ _)
  have HKA := Lib.hid hKA
  have HKB := Lib.hid hKB
  have HNE : Hid (∀ W, Below W1.heap.size W1 W → NsE W ok (.slice (some ⟨b, off, none⟩) m c2) l) := fun W hW => (hN.more hb1).more hW
  have HM := Lib.hid hm
  have HND : Hid (NodeD l d) := hnd
  have hwr : IntKind.i64.wrap (64 - (d : Int)) = 64 - (d : Int) := by rw [IntKind.wrap_i64]; omega
  clear hN hnd
  have HTxa : Hid (∀ (A3 : Option Addr) (c3 : Nat) (q3 : List Nat) (W3 : World), Below W1.heap.size W1 W3 → ArgIs W3 A3 c3 q3 → Calls Tryz.prog 28 #[.slice A3 q3.length c3, .slice (some ⟨b, off, none⟩) m c2, .int .i64 xa, .int .i64 (64 - (d : Int))] W3 (BsEnd q3 (Zq.node l d a) W1)) := fun A3 c3 q3 W3 h3 ha => by
    have := HND.out ok a q3 A3 (some ⟨b, off, none⟩) c3 _ c2 m W3 (by omega) ha rfl (HNE.out W3 h3) HM.out
    rw [← hxa] at this
    exact this.mono fun e w' h => h.from h3
  have HTxb : Hid (∀ (A3 : Option Addr) (c3 : Nat) (q3 : List Nat) (W3 : World), Below W1.heap.size W1 W3 → ArgIs W3 A3 c3 q3 → Calls Tryz.prog 28 #[.slice A3 q3.length c3, .slice (some ⟨b, off, none⟩) m c2, .int .i64 xb, .int .i64 (64 - (d : Int))] W3 (BsEnd q3 (Zq.node l d b2) W1)) := fun A3 c3 q3 W3 h3 ha => by
    have := HND.out ok b2 q3 A3 (some ⟨b, off, none⟩) c3 _ c2 m W3 (by omega) ha rfl (HNE.out W3 h3) HM.out
    rw [← hxb] at this
    exact this.mono fun e w' h => h.from h3
  clear hxa hxb
  rw [eW1] at z0 z1 z2 z3 z4
  clear hx hq hn hm hb1 hl1 eW1 hxt hKA hKB
  go_enter Tryz.func28, Tryz.ntmps28
  go_upto_region 16 with (fail)
  rw [← HW1.out] at z0 z1 z2 z3 z4 ⊢
  go_cut [10] (fun v wx => v = .bool true ∧ wx = W1)
  case first =>
    by_cases h1 : 0 ≤ xa
    · have d1 : decide (0 ≤ xa) = true := decide_eq_true h1
      have HZ : Hid (decide (xa < (i : Int)) = true) := by have := HKA.out; rw [d1, Bool.true_and] at this; exact this
      go_wp2_with fail
      go_meet
      exact ⟨congrArg Value.bool HZ.out, rfl⟩
    · have d1 : decide (0 ≤ xa) = false := decide_eq_false h1
      have HZ : Hid (false = true) := by have := HKA.out; rw [d1, Bool.false_and] at this; exact this
      go_wp2_with fail
      go_meet
      exact ⟨congrArg Value.bool HZ.out, rfl⟩
  case rest =>
  obtain ⟨e8, ewc⟩ := hcut
  subst e8
  rw [ewc]
  clear ewc
  go_upto_region 17 with (fail)
  go_cut [11] (fun v wx => v = .bool true ∧ wx = W1)
  case first =>
    by_cases h1 : 0 ≤ xb
    · have d1 : decide (0 ≤ xb) = true := decide_eq_true h1
      have HZ : Hid (decide (xb < (i : Int)) = true) := by have := HKB.out; rw [d1, Bool.true_and] at this; exact this
      go_wp2_with fail
      go_meet
      exact ⟨congrArg Value.bool HZ.out, rfl⟩
    · have d1 : decide (0 ≤ xb) = false := decide_eq_false h1
      have HZ : Hid (false = true) := by have := HKB.out; rw [d1, Bool.false_and] at this; exact this
      go_wp2_with fail
      go_meet
      exact ⟨congrArg Value.bool HZ.out, rfl⟩
  case rest =>
  obtain ⟨e8, ewc⟩ := hcut
  subst e8
  rw [ewc]
  clear ewc
  have hC1 := refCalled_any 17 W1
  rw [show strOf (Zq.called 17) = { data := #[115, 116, 97, 114, 116, 115] } from by rfl] at hC1
  obtain ⟨z0, z1, z2, z3, z4⟩ := HCELL.out W1 (Below.refl _ _)
  go_wp2_with fail
  refine hC1.mono ?_
  rintro e w2 ⟨hb2, rfl⟩
  have HB2 := Lib.hid hb2
  obtain ⟨z0, z1, z2, z3, z4⟩ := HCELL.out w2 hb2
  clear hC1 hb2
  have hbd1 : Below W1.heap.size W1 w2.drew := (HB2.out).drew
  have hP1 : Calls Tryz.prog 18 #[.slice A n c, .string { data := #[115, 116, 97, 114, 116, 115, 40] }] w2.drew (BsEnd q [115, 116, 97, 114, 116, 115, 40] W1) := (by
    have := put_any q { data := #[115, 116, 97, 114, 116, 115, 40] } A c n w2.drew (HQ.out _ hbd1) HNQ.out
    exact this.mono fun e w' h => h.from hbd1)
  go_upto_region 22 with (fail)
  go_region_with (first
    | (go_at_call 18; with_reducible refine hP1.mono ?_; intro e w1a hh; obtain ⟨hb1a, A1a, c1a, q1a, rfl, hq1a, hp1a⟩ := BsEnd.out hh; have hT1 := HTxa.out A1a c1a q1a w1a hb1a hq1a; obtain ⟨y0, y1, y2, y3, y4⟩ := HCELL.out w1a hb1a)
    | (go_at_call 28; with_reducible refine hT1.mono ?_; intro e w1b hh; obtain ⟨hb1b, A1b, c1b, q1b, rfl, hq1b, hp1b⟩ := BsEnd.out hh))
  all_goals
      have HB3 := Lib.hid hb1b
      have HP3 := Lib.hid (hp1a.trans hp1b)
      have HQ3 := Lib.hid hq1b
      clear hP1 hT1 hb1a hq1a hp1a hb1b hq1b hp1b hh hbd1 y0 y1 y2 y3 y4 z0 z1 z2 z3 z4
      obtain ⟨z0, z1, z2, z3, z4⟩ := HCELL.out w1b HB3.out
      have hbd2 : Below W1.heap.size W1 w1b.drew := (HB3.out).drew
      have hP2 : Calls Tryz.prog 18 #[.slice A1b q1b.length c1b, .string { data := #[44, 32] }] w1b.drew (BsEnd q1b [44, 32] W1) := (by
        have := put_any q1b { data := #[44, 32] } A1b c1b q1b.length w1b.drew (HQ3.out.drew) rfl
        exact this.mono fun e w' h => h.from hbd2)
      go_upto_region 23 with (fail)
      go_region_with (first
        | (go_at_call 18; with_reducible refine hP2.mono ?_; intro e w2a hh; obtain ⟨hb2a, A2a, c2a, q2a, rfl, hq2a, hp2a⟩ := BsEnd.out hh; have hT2 := HTxb.out A2a c2a q2a w2a hb2a hq2a; obtain ⟨y0, y1, y2, y3, y4⟩ := HCELL.out w2a hb2a)
        | (go_at_call 28; with_reducible refine hT2.mono ?_; intro e w2b hh; obtain ⟨hb2b, A2b, c2b, q2b, rfl, hq2b, hp2b⟩ := BsEnd.out hh))
      all_goals
        have hC5 := put_any q2b { data := #[41] } A2b c2b _ w2b hq2b rfl
        have HB4 := Lib.hid (below_onZ HB1.out hb2b)
        have HP4 := Lib.hid (HP3.out.trans (hp2a.trans hp2b))
        clear hP2 hT2 hb2a hq2a hp2a hb2b hq2b hp2b hh hbd2 y0 y1 y2 y3 y4 z0 z1 z2 z3 z4
        go_wp2_with fail
        refine hC5.mono ?_
        rintro e w5 ⟨hb5, A5, c5, q5, rfl, hq5, hp5⟩
        have HE : Hid (BsEnd q (Zq.wStarts ++ 40 :: Zq.node l d a ++ 44 :: 32 :: Zq.node l d b2 ++ [41]) w (.returned (.slice A5 q5.length c5)) w5) := ⟨below_onZ HB4.out hb5, A5, c5, q5, rfl, hq5, (HP4.out.trans hp5).same (.inl (by simp [Zq.wStarts]; rfl))⟩
        clear hC5 hb5 hq5 hp5
        go_wp2
        go_ret
        exact HE.out
end Go.Proofs.YthhlmalpelgpeaaGreatDoor
