/-
  The document's Print: node, where it opens no node.
-/
import Derived.Test.YthhlmalpelgpeaaGreatDoorZZNd
namespace Go.Proofs.YthhlmalpelgpeaaGreatDoor
open Go.RowKit

set_option maxHeartbeats 800000 in
set_option maxRecDepth 100000 in
theorem node_claim {l : List Zq.Nd} {ok : Nat → Prop} (i : Nat) (xi xa xb : Int) (xt : List Nat) (D : Int) (q : List Nat) (A A2 : Option Addr) (c n c2 m : Nat) (w : World) (hx : l[i]? = some ⟨3, xi, xa, xb, xt⟩) (hD : 0 ≤ D ∧ D ≤ 63) (h4 : n ≤ 4096) (hq : ArgIs w A c q) (hn : q.length = n) (hN : NsE w ok (.slice A2 m c2) l) (hm : l.length = m) :
    Calls Tryz.prog 28 #[.slice A n c, .slice A2 m c2, .int .i64 (i : Int), .int .i64 D] w (BsEnd q (36 :: xt) w) := by
  have hi : i < m := by rw [← hm]; exact (List.getElem?_eq_some_iff.1 hx).1
  have hm63 : m ≤ 9223372036854775807 := by
    obtain ⟨_, _, e, h1, h2, _⟩ := hN
    injection e with _ e2 e3
    omega
  obtain ⟨b, off, x', rfl, _, _, hx', hxt, s0, s1, s2, s3, s4⟩ := hN.elem (i := i) (by rw [hm]; exact hi)
  rw [hx] at hx'
  injection hx' with hx'
  subst hx'
  simp only at hxt s0 s1 s2 s3 s4
  obtain ⟨hD0, hD1⟩ := hD
  have g64 : (D == 64) = false := beq_false_of_ne (by omega)
  have g64' : decide (D = 64) = false := decide_eq_false (by omega)
  have g4 : decide ((4096 : Int) < (n : Int)) = false := decide_eq_false (by omega)
  obtain ⟨W1, eW1⟩ : ∃ W1, W1 = w.alloc (.cells #[.int .i64 3, .int .i64 xi, .int .i64 xa, .int .i64 xb, .string (strOf xt)] 37) := ⟨_, rfl⟩
  have hb1 : Below w.heap.size w W1 := by rw [eW1]; exact box_below _ _
  have hl1 : Lies W1 w.heap.size 37 (ncell ⟨3, xi, xa, xb, xt⟩) := by rw [eW1]; exact Lies.new_ rfl
  have HCELL : Hid (∀ W, Below W1.heap.size W1 W → W.cell? ⟨w.heap.size, 0, none⟩ = some (.int .i64 3) ∧ W.cell? ⟨w.heap.size, 1, none⟩ = some (.int .i64 xi) ∧ W.cell? ⟨w.heap.size, 2, none⟩ = some (.int .i64 xa) ∧ W.cell? ⟨w.heap.size, 3, none⟩ = some (.int .i64 xb) ∧ W.cell? ⟨w.heap.size, 4, none⟩ = some (.string (strOf xt))) := fun W hW => by
    have h := hl1.below hW hl1.lt
    exact ⟨h.cell 0, h.cell 1, h.cell 2, h.cell 3, h.cell 4⟩
  have HB1 := Lib.hid hb1
  have HQ : Hid (∀ W, Below W1.heap.size W1 W → ArgIs W A c q) := fun W hW => (hq.below hb1 (Nat.le_refl _)).below hW (Nat.le_refl _)
  have HNQ := Lib.hid hn
  have HNUM : Hid (numsOf (strOf xt) = xt) := numsOf_strOf hxt
  have HW1 := Lib.hid eW1
  obtain ⟨z0, z1, z2, z3, z4⟩ := HCELL.out W1 (Below.refl _ _)
  have HX3 : Hid (∀ (A3 : Option Addr) (c3 : Nat) (q3 : List Nat) (W3 : World), Below W1.heap.size W1 W3 → ArgIs W3 A3 c3 q3 → ∀ W, Below W3.heap.size W3 W → Calls Tryz.prog 18 #[.slice A3 q3.length c3, .string (strOf xt)] W (BsEnd q3 xt W1)) := fun A3 c3 q3 W3 h3 ha W hW => by
    have := put_any q3 (strOf xt) A3 c3 _ W (ha.below hW (Nat.le_refl _)) rfl
    rw [HNUM.out] at this
    exact this.mono fun e w' h => h.from (below_onZ h3 hW)
  have HX1 : Hid (∀ W, Below W1.heap.size W1 W → Calls Tryz.prog 18 #[.slice A n c, .string { data := #[36] }] W (BsEnd q [36] W1)) := fun W hW => (put_any q { data := #[36] } A c n W (HQ.out W hW) HNQ.out).mono fun e w' h => h.from hW
  rw [eW1] at z0 z1 z2 z3 z4
  clear hx hq hn hN hm hb1 hl1 eW1 hxt
  go_enter Tryz.func28, Tryz.ntmps28
  go_upto_region 12 with (fail)
  rw [← HW1.out] at z0 z1 z2 z3 z4 ⊢
  have hC1 := HX1.out W1.drew (Below.refl _ _).drew
  go_region_with (first
    | (go_at_call 18; with_reducible refine hC1.mono ?_; intro e w3 hh; obtain ⟨hb3, A3, c3, q3, rfl, hq3, hp3⟩ := BsEnd.out hh; have hC3 := HX3.out A3 c3 q3 w3 hb3 hq3 w3 (Below.refl _ _); obtain ⟨_, _, _, _, y4⟩ := HCELL.out w3 hb3)
    | (go_at_call 18; with_reducible refine hC3.mono ?_; intro e w4 hh; obtain ⟨hb4, A4, c4, q4, rfl, hq4, hp4⟩ := BsEnd.out hh))
  all_goals
    have HE : Hid (BsEnd q (36 :: xt) w (.returned (.slice A4 q4.length c4)) w4) := ⟨below_onZ HB1.out hb4, A4, c4, q4, rfl, hq4, hp3.trans hp4⟩
    clear hC1 hC3 hb3 hq3 hp3 hb4 hq4 hp4 y4 z0 z1 z2 z3 z4
    go_wp2
    go_ret
    exact HE.out
set_option maxHeartbeats 800000 in
set_option maxRecDepth 100000 in
theorem node_text {l : List Zq.Nd} {ok : Nat → Prop} (i : Nat) (xi xa xb : Int) (xt : List Nat) (D : Int) (q : List Nat) (A A2 : Option Addr) (c n c2 m : Nat) (w : World) (hx : l[i]? = some ⟨1, xi, xa, xb, xt⟩) (hD : 0 ≤ D ∧ D ≤ 63) (h4 : n ≤ 4096) (hq : ArgIs w A c q) (hn : q.length = n) (hN : NsE w ok (.slice A2 m c2) l) (hm : l.length = m) :
    Calls Tryz.prog 28 #[.slice A n c, .slice A2 m c2, .int .i64 (i : Int), .int .i64 D] w (BsEnd q (Zq.quoted xt) w) := by
  have hi : i < m := by rw [← hm]; exact (List.getElem?_eq_some_iff.1 hx).1
  have hm63 : m ≤ 9223372036854775807 := by
    obtain ⟨_, _, e, h1, h2, _⟩ := hN
    injection e with _ e2 e3
    omega
  obtain ⟨b, off, x', rfl, _, _, hx', hxt, s0, s1, s2, s3, s4⟩ := hN.elem (i := i) (by rw [hm]; exact hi)
  rw [hx] at hx'
  injection hx' with hx'
  subst hx'
  simp only at hxt s0 s1 s2 s3 s4
  obtain ⟨hD0, hD1⟩ := hD
  have g64 : (D == 64) = false := beq_false_of_ne (by omega)
  have g64' : decide (D = 64) = false := decide_eq_false (by omega)
  have g4 : decide ((4096 : Int) < (n : Int)) = false := decide_eq_false (by omega)
  obtain ⟨W1, eW1⟩ : ∃ W1, W1 = w.alloc (.cells #[.int .i64 1, .int .i64 xi, .int .i64 xa, .int .i64 xb, .string (strOf xt)] 37) := ⟨_, rfl⟩
  have hb1 : Below w.heap.size w W1 := by rw [eW1]; exact box_below _ _
  have hl1 : Lies W1 w.heap.size 37 (ncell ⟨1, xi, xa, xb, xt⟩) := by rw [eW1]; exact Lies.new_ rfl
  have HCELL : Hid (∀ W, Below W1.heap.size W1 W → W.cell? ⟨w.heap.size, 0, none⟩ = some (.int .i64 1) ∧ W.cell? ⟨w.heap.size, 1, none⟩ = some (.int .i64 xi) ∧ W.cell? ⟨w.heap.size, 2, none⟩ = some (.int .i64 xa) ∧ W.cell? ⟨w.heap.size, 3, none⟩ = some (.int .i64 xb) ∧ W.cell? ⟨w.heap.size, 4, none⟩ = some (.string (strOf xt))) := fun W hW => by
    have h := hl1.below hW hl1.lt
    exact ⟨h.cell 0, h.cell 1, h.cell 2, h.cell 3, h.cell 4⟩
  have HB1 := Lib.hid hb1
  have HQ : Hid (∀ W, Below W1.heap.size W1 W → ArgIs W A c q) := fun W hW => (hq.below hb1 (Nat.le_refl _)).below hW (Nat.le_refl _)
  have HNQ := Lib.hid hn
  have HNUM : Hid (numsOf (strOf xt) = xt) := numsOf_strOf hxt
  have HW1 := Lib.hid eW1
  obtain ⟨z0, z1, z2, z3, z4⟩ := HCELL.out W1 (Below.refl _ _)
  have hS := refQuote_any (strOf xt) W1
  rw [eW1] at z0 z1 z2 z3 z4
  clear hx hq hn hN hm hb1 hl1 eW1 hxt
  go_enter Tryz.func28, Tryz.ntmps28
  go_upto_region 8 with (fail)
  rw [← HW1.out] at z0 z1 z2 z3 z4 ⊢
  go_wp2_with fail
  refine hS.mono ?_
  intro e w2 hh
  obtain ⟨hb2, Q, rfl, hQl, hQe⟩ : Below W1.heap.size W1 w2 ∧ ∃ Q, e = .returned (.string (strOf Q)) ∧ (∀ x ∈ Q, x < 256) ∧ (Q = Zq.quoted xt ∨ (4096 < Q.length ∧ 4096 < (Zq.quoted xt).length)) := by
    have h := hh
    unfold QuoteEnd at h
    rw [HNUM.out] at h
    exact h
  have hC := put_any q (strOf Q) A c n w2 (HQ.out w2 hb2) HNQ.out
  rw [numsOf_strOf hQl] at hC
  have HB2 := Lib.hid (below_onZ HB1.out hb2)
  have HQE := Lib.hid hQe
  clear hS hh hb2 hQl hQe z0 z1 z2 z3 z4
  go_wp2_with fail
  refine hC.mono ?_
  rintro e w3 ⟨hb3, A3, c3, q3, rfl, hq3, hp3⟩
  have HE : Hid (BsEnd q (Zq.quoted xt) w (.returned (.slice A3 q3.length c3)) w3) := ⟨below_onZ HB2.out hb3, A3, c3, q3, rfl, hq3, hp3.same HQE.out⟩
  clear hC hb3 hq3 hp3
  go_wp2
  go_ret
  exact HE.out
set_option maxHeartbeats 800000 in
set_option maxRecDepth 100000 in
theorem node_int {l : List Zq.Nd} {ok : Nat → Prop} (i : Nat) (xi xa xb : Int) (xt : List Nat) (D : Int) (q : List Nat) (A A2 : Option Addr) (c n c2 m : Nat) (w : World) (hx : l[i]? = some ⟨2, xi, xa, xb, xt⟩) (hD : 0 ≤ D ∧ D ≤ 63) (h4 : n ≤ 4096) (hq : ArgIs w A c q) (hn : q.length = n) (hN : NsE w ok (.slice A2 m c2) l) (hm : l.length = m) (hxi : -9223372036854775808 ≤ xi ∧ xi ≤ 9223372036854775807) (hdl : ∀ x ∈ Jq.decimal xi, x < 256) :
    Calls Tryz.prog 28 #[.slice A n c, .slice A2 m c2, .int .i64 (i : Int), .int .i64 D] w (BsEnd q (Jq.decimal xi) w) := by
  have hi : i < m := by rw [← hm]; exact (List.getElem?_eq_some_iff.1 hx).1
  have hm63 : m ≤ 9223372036854775807 := by
    obtain ⟨_, _, e, h1, h2, _⟩ := hN
    injection e with _ e2 e3
    omega
  obtain ⟨b, off, x', rfl, _, _, hx', hxt, s0, s1, s2, s3, s4⟩ := hN.elem (i := i) (by rw [hm]; exact hi)
  rw [hx] at hx'
  injection hx' with hx'
  subst hx'
  simp only at hxt s0 s1 s2 s3 s4
  obtain ⟨hD0, hD1⟩ := hD
  have g64 : (D == 64) = false := beq_false_of_ne (by omega)
  have g64' : decide (D = 64) = false := decide_eq_false (by omega)
  have g4 : decide ((4096 : Int) < (n : Int)) = false := decide_eq_false (by omega)
  obtain ⟨W1, eW1⟩ : ∃ W1, W1 = w.alloc (.cells #[.int .i64 2, .int .i64 xi, .int .i64 xa, .int .i64 xb, .string (strOf xt)] 37) := ⟨_, rfl⟩
  have hb1 : Below w.heap.size w W1 := by rw [eW1]; exact box_below _ _
  have hl1 : Lies W1 w.heap.size 37 (ncell ⟨2, xi, xa, xb, xt⟩) := by rw [eW1]; exact Lies.new_ rfl
  have HCELL : Hid (∀ W, Below W1.heap.size W1 W → W.cell? ⟨w.heap.size, 0, none⟩ = some (.int .i64 2) ∧ W.cell? ⟨w.heap.size, 1, none⟩ = some (.int .i64 xi) ∧ W.cell? ⟨w.heap.size, 2, none⟩ = some (.int .i64 xa) ∧ W.cell? ⟨w.heap.size, 3, none⟩ = some (.int .i64 xb) ∧ W.cell? ⟨w.heap.size, 4, none⟩ = some (.string (strOf xt))) := fun W hW => by
    have h := hl1.below hW hl1.lt
    exact ⟨h.cell 0, h.cell 1, h.cell 2, h.cell 3, h.cell 4⟩
  have HB1 := Lib.hid hb1
  have HQ : Hid (∀ W, Below W1.heap.size W1 W → ArgIs W A c q) := fun W hW => (hq.below hb1 (Nat.le_refl _)).below hW (Nat.le_refl _)
  have HNQ := Lib.hid hn
  have HNUM : Hid (numsOf (strOf xt) = xt) := numsOf_strOf hxt
  have HW1 := Lib.hid eW1
  obtain ⟨z0, z1, z2, z3, z4⟩ := HCELL.out W1 (Below.refl _ _)
  have hS := decimal_any xi hxi.1 hxi.2 W1
  rw [eW1] at z0 z1 z2 z3 z4
  clear hx hq hn hN hm hb1 hl1 eW1 hxt
  go_enter Tryz.func28, Tryz.ntmps28
  go_upto_region 10 with (fail)
  rw [← HW1.out] at z0 z1 z2 z3 z4 ⊢
  go_wp2_with fail
  refine hS.mono ?_
  rintro e w2 ⟨rfl, hb2⟩
  have hC := put_any q (strOf (Jq.decimal xi)) A c n w2 (HQ.out w2 hb2) HNQ.out
  rw [numsOf_strOf hdl] at hC
  have HB2 := Lib.hid (below_onZ HB1.out hb2)
  clear hS hb2 hdl hxi z0 z1 z2 z3 z4
  go_wp2_with fail
  refine hC.mono ?_
  rintro e w3 ⟨hb3, A3, c3, q3, rfl, hq3, hp3⟩
  have HE : Hid (BsEnd q (Jq.decimal xi) w (.returned (.slice A3 q3.length c3)) w3) := ⟨below_onZ HB2.out hb3, A3, c3, q3, rfl, hq3, hp3⟩
  clear hC hb3 hq3 hp3
  go_wp2
  go_ret
  exact HE.out
set_option maxHeartbeats 800000 in
set_option maxRecDepth 100000 in
theorem node_has {l : List Zq.Nd} {ok : Nat → Prop} (i : Nat) (xi xa xb : Int) (xt : List Nat) (D : Int) (q : List Nat) (A A2 : Option Addr) (c n c2 m : Nat) (w : World) (hx : l[i]? = some ⟨4, xi, xa, xb, xt⟩) (hD : 0 ≤ D ∧ D ≤ 63) (h4 : n ≤ 4096) (hq : ArgIs w A c q) (hn : q.length = n) (hN : NsE w ok (.slice A2 m c2) l) (hm : l.length = m) :
    Calls Tryz.prog 28 #[.slice A n c, .slice A2 m c2, .int .i64 (i : Int), .int .i64 D] w (BsEnd q (Zq.wHas ++ 40 :: 36 :: xt ++ [41]) w) := by
  have hi : i < m := by rw [← hm]; exact (List.getElem?_eq_some_iff.1 hx).1
  have hm63 : m ≤ 9223372036854775807 := by
    obtain ⟨_, _, e, h1, h2, _⟩ := hN
    injection e with _ e2 e3
    omega
  obtain ⟨b, off, x', rfl, _, _, hx', hxt, s0, s1, s2, s3, s4⟩ := hN.elem (i := i) (by rw [hm]; exact hi)
  rw [hx] at hx'
  injection hx' with hx'
  subst hx'
  simp only at hxt s0 s1 s2 s3 s4
  obtain ⟨hD0, hD1⟩ := hD
  have g64 : (D == 64) = false := beq_false_of_ne (by omega)
  have g64' : decide (D = 64) = false := decide_eq_false (by omega)
  have g4 : decide ((4096 : Int) < (n : Int)) = false := decide_eq_false (by omega)
  obtain ⟨W1, eW1⟩ : ∃ W1, W1 = w.alloc (.cells #[.int .i64 4, .int .i64 xi, .int .i64 xa, .int .i64 xb, .string (strOf xt)] 37) := ⟨_, rfl⟩
  have hb1 : Below w.heap.size w W1 := by rw [eW1]; exact box_below _ _
  have hl1 : Lies W1 w.heap.size 37 (ncell ⟨4, xi, xa, xb, xt⟩) := by rw [eW1]; exact Lies.new_ rfl
  have HCELL : Hid (∀ W, Below W1.heap.size W1 W → W.cell? ⟨w.heap.size, 0, none⟩ = some (.int .i64 4) ∧ W.cell? ⟨w.heap.size, 1, none⟩ = some (.int .i64 xi) ∧ W.cell? ⟨w.heap.size, 2, none⟩ = some (.int .i64 xa) ∧ W.cell? ⟨w.heap.size, 3, none⟩ = some (.int .i64 xb) ∧ W.cell? ⟨w.heap.size, 4, none⟩ = some (.string (strOf xt))) := fun W hW => by
    have h := hl1.below hW hl1.lt
    exact ⟨h.cell 0, h.cell 1, h.cell 2, h.cell 3, h.cell 4⟩
  have HB1 := Lib.hid hb1
  have HQ : Hid (∀ W, Below W1.heap.size W1 W → ArgIs W A c q) := fun W hW => (hq.below hb1 (Nat.le_refl _)).below hW (Nat.le_refl _)
  have HNQ := Lib.hid hn
  have HNUM : Hid (numsOf (strOf xt) = xt) := numsOf_strOf hxt
  have HW1 := Lib.hid eW1
  obtain ⟨z0, z1, z2, z3, z4⟩ := HCELL.out W1 (Below.refl _ _)
  have HX3 : Hid (∀ (A3 : Option Addr) (c3 : Nat) (q3 : List Nat) (W3 : World), Below W1.heap.size W1 W3 → ArgIs W3 A3 c3 q3 → ∀ W, Below W3.heap.size W3 W → Calls Tryz.prog 18 #[.slice A3 q3.length c3, .string (strOf xt)] W (BsEnd q3 xt W1)) := fun A3 c3 q3 W3 h3 ha W hW => by
    have := put_any q3 (strOf xt) A3 c3 _ W (ha.below hW (Nat.le_refl _)) rfl
    rw [HNUM.out] at this
    exact this.mono fun e w' h => h.from (below_onZ h3 hW)
  have hC1 : Calls Tryz.prog 18 #[.slice A n c, .string { data := #[104, 97, 115, 40, 36] }] W1.drew (BsEnd q [104, 97, 115, 40, 36] W1) := (put_any q { data := #[104, 97, 115, 40, 36] } A c n W1.drew (HQ.out _ (Below.refl _ _).drew) HNQ.out).mono fun e w' h => h.from (Below.refl _ _).drew
  rw [eW1] at z0 z1 z2 z3 z4
  clear hx hq hn hN hm hb1 hl1 eW1 hxt
  go_enter Tryz.func28, Tryz.ntmps28
  go_upto_region 14 with (fail)
  rw [← HW1.out] at z0 z1 z2 z3 z4 ⊢
  go_region_with (first
    | (go_at_call 18; with_reducible refine hC1.mono ?_; intro e w3 hh; obtain ⟨hb3, A3, c3, q3, rfl, hq3, hp3⟩ := BsEnd.out hh; have hC3 := HX3.out A3 c3 q3 w3 hb3 hq3 w3 (Below.refl _ _); obtain ⟨_, _, _, _, y4⟩ := HCELL.out w3 hb3)
    | (go_at_call 18; with_reducible refine hC3.mono ?_; intro e w4 hh; obtain ⟨hb4, A4, c4, q4, rfl, hq4, hp4⟩ := BsEnd.out hh))
  all_goals
    have hC5 := put_any q4 { data := #[41] } A4 c4 _ w4 hq4 rfl
    have HB4 := Lib.hid (below_onZ HB1.out hb4)
    have HP4 := Lib.hid (hp3.trans hp4)
    clear hC1 hC3 hb3 hq3 hp3 hb4 hq4 hp4 y4 z0 z1 z2 z3 z4 hh
    go_wp2_with fail
    refine hC5.mono ?_
    rintro e w5 ⟨hb5, A5, c5, q5, rfl, hq5, hp5⟩
    have HE : Hid (BsEnd q (Zq.wHas ++ 40 :: 36 :: xt ++ [41]) w (.returned (.slice A5 q5.length c5)) w5) := ⟨below_onZ HB4.out hb5, A5, c5, q5, rfl, hq5, HP4.out.trans hp5⟩
    clear hC5 hb5 hq5 hp5
    go_wp2
    go_ret
    exact HE.out
set_option maxHeartbeats 1000000 in
set_option maxRecDepth 100000 in
theorem node_stop {X : List Nat} (i D : Int) (q : List Nat) (A : Option Addr) (c n : Nat) (lv : Value) (w : World) (h4 : 4096 < n) (hq : ArgIs w A c q) (hn : q.length = n) :
    Calls Tryz.prog 28 #[.slice A n c, lv, .int .i64 i, .int .i64 D] w (BsEnd q X w) := by
  have HE : Hid (BsEnd q X w (.returned (.slice A n c)) w) := ⟨Below.refl _ _, A, c, q, by rw [hn], hq, Puts.over X (by omega) (by omega)⟩
  have g4 : decide ((4096 : Int) < (n : Int)) = true := decide_eq_true (by omega)
  clear hq hn
  go_enter Tryz.func28, Tryz.ntmps28
  go_wp2
  go_ret
  exact HE.out
set_option maxHeartbeats 1000000 in
set_option maxRecDepth 100000 in
theorem node_deep (i : Int) (q : List Nat) (A : Option Addr) (c n : Nat) (lv : Value) (w : World) (h4 : n ≤ 4096) (hq : ArgIs w A c q) (hn : q.length = n) :
    Calls Tryz.prog 28 #[.slice A n c, lv, .int .i64 i, .int .i64 64] w (BsEnd q [63] w) := by
  have hC := put_any q { data := #[63] } A c n w hq hn
  rw [show numsOf { data := #[63] } = [63] from rfl] at hC
  have g4 : decide ((4096 : Int) < (n : Int)) = false := decide_eq_false (by omega)
  clear hq hn
  go_enter Tryz.func28, Tryz.ntmps28
  go_wp2_with fail
  refine hC.mono ?_
  rintro e w3 ⟨hb3, A3, c3, q3, rfl, hq3, hp3⟩
  have HE : Hid (BsEnd q [63] w (.returned (.slice A3 q3.length c3)) w3) := ⟨hb3, A3, c3, q3, rfl, hq3, hp3⟩
  clear hC hb3 hq3 hp3
  go_wp2
  go_ret
  exact HE.out
end Go.Proofs.YthhlmalpelgpeaaGreatDoor
