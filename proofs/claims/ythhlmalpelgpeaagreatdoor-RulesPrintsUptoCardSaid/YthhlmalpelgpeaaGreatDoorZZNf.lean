/-
  The document's Print: node, where it can open nothing.
-/
import Derived.Test.YthhlmalpelgpeaaGreatDoorZZNe
import Derived.Deep.DeepCutAuto
namespace Go.Proofs.YthhlmalpelgpeaaGreatDoor
open Go.RowKit

/-- Where a node that is none of the first four opens nothing. -/
def Shut (op : Int) (KA KB : Bool) : Prop := (op = 13 ∧ KA = false) ∨ (op = 17 ∧ (KA && KB) = false) ∨ ((op ≠ 13 ∧ op ≠ 17) ∧ ((Zq.called op ≠ [] ∧ betw op = [] ∧ KA = false) ∨ (Zq.called op = [] ∧ (betw op = [] ∨ (KA && KB) = false))))
theorem str_facts (t : List Nat) : ∃ s, strOf t = s ∧ ((s.toList.isEmpty = true ∧ s.toList = [] ∧ Hid (t = [])) ∨ (s.toList.isEmpty = false ∧ ¬ s.toList = [] ∧ Hid (t ≠ []))) := ⟨_, rfl, by
  rcases str_empty t with ⟨q1, q2, q3⟩ | ⟨q1, q2, q3⟩
  · exact .inl ⟨q1, q2, q3⟩
  · exact .inr ⟨q1, q2, q3⟩⟩
set_option maxHeartbeats 800000 in
set_option maxRecDepth 100000 in
theorem node_shut {l : List Zq.Nd} {ok : Nat → Prop} (i : Nat) (op : Int) (xi xa xb : Int) (xt : List Nat) (D : Int) (q : List Nat) (A A2 : Option Addr) (c n c2 m : Nat) (w : World) (hx : l[i]? = some ⟨op, xi, xa, xb, xt⟩) (hD : 0 ≤ D ∧ D ≤ 63) (h4 : n ≤ 4096) (hq : ArgIs w A c q) (hn : q.length = n) (hN : NsE w ok (.slice A2 m c2) l) (hm : l.length = m) (KA KB : Bool) (hKA : (decide (0 ≤ xa) && decide (xa < (i : Int))) = KA) (hKB : (decide (0 ≤ xb) && decide (xb < (i : Int))) = KB) (hop : op ≠ 1 ∧ op ≠ 2 ∧ op ≠ 3 ∧ op ≠ 4) (hshut : Shut op KA KB) :
    Calls Tryz.prog 28 #[.slice A n c, .slice A2 m c2, .int .i64 (i : Int), .int .i64 D] w (BsEnd q ([63]) w) := by
  have hi : i < m := by rw [← hm]; exact (List.getElem?_eq_some_iff.1 hx).1
  have hm63 : m ≤ 9223372036854775807 := by
    obtain ⟨_, _, e, h1, h2, _⟩ := hN
    injection e with _ e2 e3
    omega
  obtain ⟨b, off, x', rfl, _, _, hx', hxt, s0, s1, s2, s3, s4⟩ := hN.elem (i := i) (by rw [hm]; exact hi)
  rw [hx] at hx'
  injection hx' with hx'
  subst hx'
  simp only at hxt s0 s1 s2 s3 s4
  obtain ⟨hD0, hD1⟩ := hD
  have g64 : (D == 64) = false := beq_false_of_ne (by omega)
  have g64' : decide (D = 64) = false := decide_eq_false (by omega)
  have g4 : decide ((4096 : Int) < (n : Int)) = false := decide_eq_false (by omega)
  obtain ⟨W1, eW1⟩ : ∃ W1, W1 = w.alloc (.cells #[.int .i64 op, .int .i64 xi, .int .i64 xa, .int .i64 xb, .string (strOf xt)] 37) := ⟨_, rfl⟩
  have hb1 : Below w.heap.size w W1 := by rw [eW1]; exact box_below _ _
  have hl1 : Lies W1 w.heap.size 37 (ncell ⟨op, xi, xa, xb, xt⟩) := by rw [eW1]; exact Lies.new_ rfl
  have HCELL : Hid (∀ W, Below W1.heap.size W1 W → W.cell? ⟨w.heap.size, 0, none⟩ = some (.int .i64 op) ∧ W.cell? ⟨w.heap.size, 1, none⟩ = some (.int .i64 xi) ∧ W.cell? ⟨w.heap.size, 2, none⟩ = some (.int .i64 xa) ∧ W.cell? ⟨w.heap.size, 3, none⟩ = some (.int .i64 xb) ∧ W.cell? ⟨w.heap.size, 4, none⟩ = some (.string (strOf xt))) := fun W hW => by
    have h := hl1.below hW hl1.lt
    exact ⟨h.cell 0, h.cell 1, h.cell 2, h.cell 3, h.cell 4⟩
  have HB1 := Lib.hid hb1
  have HQ : Hid (∀ W, Below W1.heap.size W1 W → ArgIs W A c q) := fun W hW => (hq.below hb1 (Nat.le_refl _)).below hW (Nat.le_refl _)
  have HNQ := Lib.hid hn
  have HNUM : Hid (numsOf (strOf xt) = xt) := numsOf_strOf hxt
  have HW1 := Lib.hid eW1
  obtain ⟨z0, z1, z2, z3, z4⟩ := HCELL.out W1 (Below.refl _ _)
  have HKA := Lib.hid hKA
  have HKB := Lib.hid hKB
  obtain ⟨p1a, p1b, _⟩ := int11_no hop.1
  obtain ⟨p2a, p2b, _⟩ := int11_no hop.2.1
  obtain ⟨p3a, p3b, _⟩ := int11_no hop.2.2.1
  obtain ⟨p4a, p4b, _⟩ := int11_no hop.2.2.2
  have HOPEN := Lib.hid hshut
  clear hshut hN
  rw [eW1] at z0 z1 z2 z3 z4
  clear hx hq hn hm hb1 hl1 eW1 hxt hKA hKB hop
  go_enter Tryz.func28, Tryz.ntmps28
  go_upto_region 16 with (fail)
  rw [← HW1.out] at z0 z1 z2 z3 z4 ⊢
  go_cut [10] (fun v wx => v = .bool KA ∧ wx = W1)
  case first =>
    by_cases h1 : 0 ≤ xa
    · have d1 : decide (0 ≤ xa) = true := decide_eq_true h1
      have HZ : Hid (decide (xa < (i : Int)) = KA) := by have := HKA.out; rw [d1, Bool.true_and] at this; exact this
      go_wp2_with fail
      go_meet
      exact ⟨congrArg Value.bool HZ.out, rfl⟩
    · have d1 : decide (0 ≤ xa) = false := decide_eq_false h1
      have HZ : Hid (false = KA) := by have := HKA.out; rw [d1, Bool.false_and] at this; exact this
      go_wp2_with fail
      go_meet
      exact ⟨congrArg Value.bool HZ.out, rfl⟩
  case rest =>
  obtain ⟨e8, ewc⟩ := hcut
  subst e8
  rw [ewc]
  clear ewc
  go_upto_region 17 with (fail)
  go_cut [11] (fun v wx => v = .bool KB ∧ wx = W1)
  case first =>
    by_cases h1 : 0 ≤ xb
    · have d1 : decide (0 ≤ xb) = true := decide_eq_true h1
      have HZ : Hid (decide (xb < (i : Int)) = KB) := by have := HKB.out; rw [d1, Bool.true_and] at this; exact this
      go_wp2_with fail
      go_meet
      exact ⟨congrArg Value.bool HZ.out, rfl⟩
    · have d1 : decide (0 ≤ xb) = false := decide_eq_false h1
      have HZ : Hid (false = KB) := by have := HKB.out; rw [d1, Bool.false_and] at this; exact this
      go_wp2_with fail
      go_meet
      exact ⟨congrArg Value.bool HZ.out, rfl⟩
  case rest =>
  obtain ⟨e8, ewc⟩ := hcut
  subst e8
  rw [ewc]
  clear ewc
  have hC1 := refCalled_any op W1
  obtain ⟨WD, eWD, HWD⟩ := str_facts (Zq.called op)
  obtain ⟨SG, eSG, HSG⟩ := str_facts (betw op)
  rw [eWD] at hC1
  obtain ⟨z0, z1, z2, z3, z4⟩ := HCELL.out W1 (Below.refl _ _)
  clear eWD
  go_wp2_with fail
  refine hC1.mono ?_
  rintro e w2 ⟨hb2, rfl⟩
  have HB2 := Lib.hid hb2
  have hC2 : ∀ w5, Below w2.heap.size w2 w5 → Calls Tryz.prog 18 #[.slice A n c, .string { data := #[63] }] w5 (BsEnd q [63] W1) := fun w5 h5 => by
    have := put_any q { data := #[63] } A c n w5 (HQ.out w5 (below_onZ HB2.out h5)) HNQ.out
    rw [show numsOf { data := #[63] } = [63] from rfl] at this
    exact this.mono fun e w' h => h.from (below_onZ HB2.out h5)
  have HC2 := Lib.hid hC2
  obtain ⟨z0, z1, z2, z3, z4⟩ := HCELL.out w2 hb2
  have hC1 := refBetween_any op w2
  rw [eSG] at hC1
  clear hb2 hC2 eSG
  rcases HOPEN.out with ⟨h13, hka⟩ | ⟨h17, hkab⟩ | ⟨⟨h13, h17⟩, h⟩
  · subst h13 hka
    have WE : Zq.called 13 = [] := by decide
    have SE : betw 13 = [] := by decide
    rcases HWD with ⟨q1, q2, _⟩ | ⟨_, _, q3⟩
    case inr => exact absurd WE q3.out
    rcases HSG with ⟨r1, r2, _⟩ | ⟨_, _, q3⟩
    case inr => exact absurd SE q3.out
    clear WE SE HOPEN
    go_wp2_with fail
    refine hC1.mono ?_
    rintro e w3 ⟨hb3, rfl⟩
    have hC2 := HC2.out w3 hb3
    clear hC1 hb3
    go_wp2_with fail
    refine hC2.mono ?_
    rintro e w4 ⟨hb4, A4, c4, q4, rfl, hq4, hp4⟩
    have HE : Hid (BsEnd q [63] w (.returned (.slice A4 q4.length c4)) w4) := ⟨below_onZ HB1.out hb4, A4, c4, q4, rfl, hq4, hp4⟩
    clear hC2 hb4 hq4 hp4
    go_wp2
    go_ret
    exact HE.out
  · subst h17
    have WE : Zq.called 17 ≠ [] := by decide
    have SE : betw 17 = [] := by decide
    rcases HWD with ⟨_, _, q3⟩ | ⟨q1, q2, _⟩
    case inl => exact absurd q3.out WE
    rcases HSG with ⟨r1, r2, _⟩ | ⟨_, _, q3⟩
    case inr => exact absurd SE q3.out
    clear WE SE HOPEN
    cases KA with
    | false =>
      go_wp2_with fail
      refine hC1.mono ?_
      rintro e w3 ⟨hb3, rfl⟩
      have hC2 := HC2.out w3 hb3
      clear hC1 hb3
      go_wp2_with fail
      refine hC2.mono ?_
      rintro e w4 ⟨hb4, A4, c4, q4, rfl, hq4, hp4⟩
      have HE : Hid (BsEnd q [63] w (.returned (.slice A4 q4.length c4)) w4) := ⟨below_onZ HB1.out hb4, A4, c4, q4, rfl, hq4, hp4⟩
      clear hC2 hb4 hq4 hp4
      go_wp2
      go_ret
      exact HE.out
    | true =>
      have hkb : KB = false := by simpa using hkab
      subst hkb
      go_wp2_with fail
      refine hC1.mono ?_
      rintro e w3 ⟨hb3, rfl⟩
      have hC2 := HC2.out w3 hb3
      clear hC1 hb3
      go_wp2_with fail
      refine hC2.mono ?_
      rintro e w4 ⟨hb4, A4, c4, q4, rfl, hq4, hp4⟩
      have HE : Hid (BsEnd q [63] w (.returned (.slice A4 q4.length c4)) w4) := ⟨below_onZ HB1.out hb4, A4, c4, q4, rfl, hq4, hp4⟩
      clear hC2 hb4 hq4 hp4
      go_wp2
      go_ret
      exact HE.out
  obtain ⟨p5a, p5b, p5c⟩ := int11_no h13
  obtain ⟨p6a, p6b, p6c⟩ := int11_no h17
  clear h13 h17 HOPEN
  rcases h with ⟨WE, SE, hka⟩ | ⟨WE, hs⟩
  · subst hka
    rcases HWD with ⟨_, _, q3⟩ | ⟨q1, q2, _⟩
    case inl => exact absurd q3.out WE
    rcases HSG with ⟨r1, r2, _⟩ | ⟨_, _, q3⟩
    case inr => exact absurd SE q3.out
    clear WE SE
    go_wp2_with fail
    refine hC1.mono ?_
    rintro e w3 ⟨hb3, rfl⟩
    have hC2 := HC2.out w3 hb3
    clear hC1 hb3
    go_wp2_with fail
    refine hC2.mono ?_
    rintro e w4 ⟨hb4, A4, c4, q4, rfl, hq4, hp4⟩
    have HE : Hid (BsEnd q [63] w (.returned (.slice A4 q4.length c4)) w4) := ⟨below_onZ HB1.out hb4, A4, c4, q4, rfl, hq4, hp4⟩
    clear hC2 hb4 hq4 hp4
    go_wp2
    go_ret
    exact HE.out
  · rcases HWD with ⟨q1, q2, _⟩ | ⟨_, _, q3⟩
    case inr => exact absurd WE q3.out
    clear WE
    rcases HSG with ⟨r1, r2, _⟩ | ⟨r1, r2, r3⟩
    · clear hs
      go_wp2_with fail
      refine hC1.mono ?_
      rintro e w3 ⟨hb3, rfl⟩
      have hC2 := HC2.out w3 hb3
      clear hC1 hb3
      go_wp2_with fail
      refine hC2.mono ?_
      rintro e w4 ⟨hb4, A4, c4, q4, rfl, hq4, hp4⟩
      have HE : Hid (BsEnd q [63] w (.returned (.slice A4 q4.length c4)) w4) := ⟨below_onZ HB1.out hb4, A4, c4, q4, rfl, hq4, hp4⟩
      clear hC2 hb4 hq4 hp4
      go_wp2
      go_ret
      exact HE.out
    · have hkab : (KA && KB) = false := by
        rcases hs with h | h
        · exact absurd h r3.out
        · exact h
      clear hs r3
      cases KA with
      | false =>
        go_wp2_with fail
        refine hC1.mono ?_
        rintro e w3 ⟨hb3, rfl⟩
        have hC2 := HC2.out w3 hb3
        clear hC1 hb3
        go_wp2_with fail
        refine hC2.mono ?_
        rintro e w4 ⟨hb4, A4, c4, q4, rfl, hq4, hp4⟩
        have HE : Hid (BsEnd q [63] w (.returned (.slice A4 q4.length c4)) w4) := ⟨below_onZ HB1.out hb4, A4, c4, q4, rfl, hq4, hp4⟩
        clear hC2 hb4 hq4 hp4
        go_wp2
        go_ret
        exact HE.out
      | true =>
        have hkb : KB = false := by simpa using hkab
        subst hkb
        go_wp2_with fail
        refine hC1.mono ?_
        rintro e w3 ⟨hb3, rfl⟩
        have hC2 := HC2.out w3 hb3
        clear hC1 hb3
        go_wp2_with fail
        refine hC2.mono ?_
        rintro e w4 ⟨hb4, A4, c4, q4, rfl, hq4, hp4⟩
        have HE : Hid (BsEnd q [63] w (.returned (.slice A4 q4.length c4)) w4) := ⟨below_onZ HB1.out hb4, A4, c4, q4, rfl, hq4, hp4⟩
        clear hC2 hb4 hq4 hp4
        go_wp2
        go_ret
        exact HE.out
end Go.Proofs.YthhlmalpelgpeaaGreatDoor
