/-
  G14: ZWo ZWp ZWr ZWs, side by side.
-/
import Derived.Test.YthhlmalpelgpeaaGreatDoorG13
import Derived.Test.YthhlmalpelgpeaaGreatDoorG11

/-
  The writer of rules: a node's form; nodes at all depths.
-/
namespace Go.Proofs.YthhlmalpelgpeaaGreatDoor
open Go.RowKit

theorem Wz.drew {P : Nat} {st : Option (List Nat)} {w : World} (h : Wz P st w) : Wz P st w.drew := h.keep ⟨rfl, rfl, rfl, Nat.le_refl _, fun _ _ => rfl⟩
theorem Sy.undrew {P : Nat} {w w' : World} (h : Sy P w.drew w') : Sy P w w' := ⟨⟨h.below.os, h.below.tape, h.below.output, h.below.size, h.below.block⟩, h.size, h.lies⟩
theorem Sy.drew {P : Nat} {w w' : World} (h : Sy P w w') : Sy P w w'.drew := ⟨⟨h.below.os, h.below.tape, h.below.output, h.below.size, h.below.block⟩, h.size, h.lies⟩
/-- An operand that is to be written: its contract, where it stands. -/
def ArgOk (P : Nat) (A : Option Addr) (c m outer : Nat) (a : Int) (req : Nat) (X : List Nat) (w : World) : Prop :=
  ∃ a' : Nat, a = (a' : Int) ∧ a' < m ∧ ∀ st w', Wz P st w' → Sy P w w' → Calls Tryz.prog 66 #[.pointer (some ⟨P, 0, none⟩), .slice A (a' + 1) c, .int .i64 (req : Int), .int .i64 ((outer : Int) + 1)] w' (WzEnd P w' (addZ st X))
theorem arg_ok {f : Nat} (ih : NodeOk f) (hf : f < 64) {w0 w : World} {P : Nat} {ns : List Zq.Nd} {A : Option Addr} {n c req : Nat} {a : Int} (hH : HeldZ w0) (hB : Below w0.heap.size w0 w) (hP : w0.heap.size ≤ P) (hN : NsW w (· < P) (.slice A n c) ns) (hn : ns.length = n) (ha : 0 ≤ a ∧ a < (ns.length : Int) - 1) (hreq : req ≤ 10) :
    ArgOk P A c (n - 1) (63 - f) a req (childT ns f a req) w := by
  obtain ⟨a', rfl⟩ : ∃ a' : Nat, a = (a' : Int) := ⟨a.toNat, by omega⟩
  refine ⟨a', rfl, by omega, fun st w' hW hS => ?_⟩
  have hT := (hN.sy hS).take (k := a' + 1) (by omega)
  have := ih w0 P st (ns.take (a' + 1)) A (a' + 1) c req w' hH (hB.trans (hS.below.mono hP)) hP hW hT (by rw [List.length_take]; omega) (Nat.succ_pos _) hreq
  rw [Nat.add_sub_cancel, node_take (a' + 1) f a' ns (Nat.lt_succ_self _)] at this
  have ho : ownAt (ns.take (a' + 1)) a' = ownAt ns a' := by unfold ownAt; rw [List.getElem?_take, if_pos (Nat.lt_succ_self _)]
  rw [ho] at this
  have hc : childT ns f (a' : Int) req = parT req (ownAt ns a') (Zq.node ns f a') := by unfold childT; rw [Int.toNat_natCast]
  rw [hc]
  have ho2 : ((64 - f : Nat) : Int) = ((63 - f : Nat) : Int) + 1 := by omega
  rw [ho2] at this
  exact this
/-- What a form says, and how its operands are written. -/
theorem form_parts (f : Nat) (hf : f ≤ 64) (ih : ∀ g, f = g + 1 → NodeOk g) {w0 w : World} {P : Nat} {ns : List Zq.Nd} {A : Option Addr} {n c : Nat} {x : Zq.Nd} (hH : HeldZ w0) (hB : Below w0.heap.size w0 w) (hP : w0.heap.size ≤ P) (hN : NsW w (· < P) (.slice A n c) ns) (hn : ns.length = n) (h0 : 0 < n) (hx : ns[n - 1]? = some x) :
    ∃ ca cb, Zq.node ns f (n - 1) = bodyT (lastF ns (64 - f) x) ca cb ∧ (1 ≤ (lastF ns (64 - f) x).ops → ArgOk P A c (n - 1) (64 - f) x.a (lastF ns (64 - f) x).left ca w) ∧ (2 ≤ (lastF ns (64 - f) x).ops → ArgOk P A c (n - 1) (64 - f) x.b (lastF ns (64 - f) x).right cb w) := by
  obtain ⟨k1, k2, _, k4, k5⟩ := lastF_in ns (64 - f) x
  cases f with
  | zero =>
    exact ⟨[], [], node_zero ns (n - 1) x [] [], fun h => absurd (k1 h).2 (by decide), fun h => absurd (k1 (by omega)).2 (by decide)⟩
  | succ g =>
    have e : 64 - (g + 1) = 63 - g := by omega
    rw [e] at k1 k2 k4 k5 ⊢
    refine ⟨_, _, node_step ns (n - 1) g x hx (by omega) (by omega), fun h => ?_, fun h => ?_⟩
    · exact arg_ok (ih g rfl) (by omega) hH hB hP hN hn (k1 h).1 k4
    · exact arg_ok (ih g rfl) (by omega) hH hB hP hN hn (k2 h) k5
set_option maxHeartbeats 2000000 in
set_option maxRecDepth 100000 in
theorem form_ok (f : Nat) (hf : f ≤ 64) (ih : ∀ g, f = g + 1 → NodeOk g) : FormOk f := by
  intro w0 P st ns A n c x w hH hB hP hW hN hn h0 hx
  obtain ⟨ca, cb, hbody, hca, hcb⟩ := form_parts f hf ih hH hB hP hN hn h0 hx
  obtain ⟨b, off, x', rfl, hb, hlt, hx', hNW, s0, s1, s2, s3, s4⟩ := hN.elem (i := n - 1) (by omega)
  rw [hx] at hx'
  injection hx' with hx'
  subst hx'
  have hfine := lastF_fine ns (64 - f) x hNW
  have hops := (lastF_in ns (64 - f) x).2.2.1
  have hnl : n ≤ 140737488355328 := by
    obtain ⟨_, _, _, _, _, k, _⟩ := hN
    omega
  have hnc : n ≤ c := by
    obtain ⟨_, _, e, k, _⟩ := hN
    injection e with e1 e2 e3
    omega
  obtain ⟨m, rfl⟩ : ∃ m, n = m + 1 := ⟨n - 1, by omega⟩
  rw [Nat.add_sub_cancel] at s0 s1 s2 s3 s4 hbody hca hcb ⊢
  obtain ⟨res, eres⟩ : ∃ res, addZ st (Zq.node ns f m) = res := ⟨_, rfl⟩
  rw [eres]
  rw [hbody] at eres
  obtain ⟨D, eD⟩ : ∃ D, 64 - f = D := ⟨_, rfl⟩
  have hD64 : D ≤ 64 := by omega
  rw [eD] at eres hca hcb hfine hops ⊢
  obtain ⟨F, eF⟩ : ∃ F, lastF ns D x = F := ⟨_, rfl⟩
  rw [eF] at eres hca hcb hfine hops ⊢
  obtain ⟨o, t1, t2, t3, p, l, r⟩ := F
  simp only at hops hca hcb
  obtain ⟨⟨u1, v1⟩, ⟨u2, v2⟩, u3, v3⟩ := hfine
  simp only at u1 v1 u2 v2 u3 v3
  have hsub : ((m + 1 : Nat) : Int) - 1 = (m : Int) := by omega
  have hcast : ((m + 1 : Nat) : Int) = (m : Int) + 1 := rfl
  have hm0 : (0 : Int) ≤ (m : Int) := by omega
  have hm1 : (m : Int) < (m : Int) + 1 := by omega
  have hPw := hW.lt
  obtain ⟨W2, eW2⟩ : ∃ W2, W2 = (w.alloc (.cells #[.int .i64 (o : Int), .string (strOf t1), .string (strOf t2), .string (strOf t3), .int .i64 (p : Int), .int .i64 (l : Int), .int .i64 (r : Int)] 116)).alloc (.cells #[.int .i64 x.op, .int .i64 x.int, .int .i64 x.a, .int .i64 x.b, .string (strOf x.text)] 37) := ⟨_, rfl⟩
  have hb2 : Below w.heap.size w W2 := by rw [eW2]; exact below_new2 _ _ _
  have hlF : Lies W2 w.heap.size 116 [.int .i64 (o : Int), .string (strOf t1), .string (strOf t2), .string (strOf t3), .int .i64 (p : Int), .int .i64 (l : Int), .int .i64 (r : Int)] := by rw [eW2]; exact (Lies.new_ rfl).alloc _
  have hlN : Lies W2 (w.heap.size + 1) 37 (ncell x) := by rw [eW2]; exact Lies.new_ (by simp)
  have HS2 : Hid (Sy P w W2) := Sy.of_below hb2 (Nat.le_of_lt hPw)
  have hA := wadd_any (strOf t1) (by rw [strOf_size]; omega) (hW.keep hb2)
  rw [numsOf_strOf u1] at hA
  have HLF := Lib.hid hlF
  have HLN := Lib.hid hlN
  have HNE : Hid (w.heap.size ≠ P ∧ w.heap.size + 1 ≠ P) := ⟨by omega, by omega⟩
  have HTY : Hid ((116 : TypeId) ≠ 5 ∧ (37 : TypeId) ≠ 5) := ⟨by decide, by decide⟩
  have HCA := Lib.hid hca
  have HCB := Lib.hid hcb
  have HRES := Lib.hid eres
  have HU : Hid ((∀ x ∈ t2, x < 256) ∧ t2.length ≤ 100 ∧ (∀ x ∈ t3, x < 256) ∧ t3.length ≤ 100) := ⟨u2, v2, u3, v3⟩
  have HW2 := Lib.hid eW2
  have hcm : (m : Int) + 1 ≤ (c : Int) := by omega
  rw [eW2] at hA
  clear hH hB hP hW hN hn h0 hx hbody hca hcb hNW hb2 hlF hlN eres u1 v1 u2 v2 u3 v3 eW2 eF eD hb hPw
  go_enter Tryz.func84, Tryz.ntmps84
  go_wp2_with fail
  refine hA.mono ?_
  rintro e w3 ⟨rfl, hs3, hw3⟩
  clear hA s0 s1 s2 s3 s4
  rw [← HW2.out] at hs3
  have HS3 := Lib.hid (HS2.out.trans hs3)
  have HLF3 := Lib.hid (hs3.lies _ _ _ HTY.out.1 HNE.out.1 HLF.out)
  have HLN3 := Lib.hid (hs3.lies _ _ _ HTY.out.2 HNE.out.2 HLN.out)
  have HW3 := Lib.hid hw3
  clear hs3 hw3
  rcases (by omega : o = 0 ∨ o = 1 ∨ o = 2) with rfl | rfl | rfl
  · obtain ⟨⟨y0, y1, y2, y3, y4, y5, y6⟩, _⟩ := HLF3.out.seven
    have hA := wadd_any (strOf t3) (by rw [strOf_size]; have := HU.out.2.2.2; omega) HW3.out
    rw [numsOf_strOf HU.out.2.2.1] at hA
    have HFIN : Hid (addZ (addZ st t1) t3 = res) := by unfold Hid; rw [addZ_add, ← HRES.out]; congr 1; simp [bodyT]
    go_wp2_with fail
    refine hA.mono ?_
    rintro e w4 ⟨rfl, hs4, hw4⟩
    rw [HFIN.out] at hw4
    have HE : Hid (WzEnd P w res (.returned (.tuple #[])) w4) := ⟨rfl, HS3.out.trans hs4, hw4⟩
    clear hA hs4 hw4
    go_wp2
    go_end0
    exact HE.out
  · obtain ⟨⟨y0, y1, y2, y3, y4, y5, y6⟩, _⟩ := HLF3.out.seven
    obtain ⟨⟨b0, b1, b2, b3, b4⟩, _⟩ := HLN3.out.five
    obtain ⟨a', ea, ha, hC⟩ := HCA.out (by decide)
    rw [ea] at b2
    have hk1 : (0 : Int) ≤ (a' : Int) + 1 := by omega
    have hk2 : (a' : Int) + 1 ≤ (c : Int) := by omega
    have hk3 : (a' : Int) ≤ 140737488355328 := by omega
    have HC := Lib.hid hC
    have hD : (D : Int) ≤ 64 := by omega
    have hw1 : IntKind.i64.wrap ((a' : Int) + 1) = (a' : Int) + 1 := IntWalk.i64_in _ (by omega)
    have hw2 : IntKind.i64.wrap ((D : Int) + 1) = (D : Int) + 1 := IntWalk.i64_in _ (by omega)
    have hk4 : ((a' : Int) + 1).toNat = a' + 1 := by omega
    clear hC
    go_upto_region 4 with (fail)
    go_region_law (first | (go_simp; go_at_call 66; refine (HC.out _ _ (by first | exact HW3.out | exact HW3.out.drew) (by first | exact HS3.out | exact HS3.out.drew)).mono ?_; rintro e w4 ⟨rfl, hs4, hw4⟩; have hs4' : Sy P w3 w4 := (by first | exact hs4 | exact Sy.undrew hs4); have HS4 := Lib.hid (HS3.out.trans hs4'); have HLF4 := Lib.hid (hs4'.lies _ _ _ HTY.out.1 HNE.out.1 HLF3.out); have HLN4 := Lib.hid (hs4'.lies _ _ _ HTY.out.2 HNE.out.2 HLN3.out); have HW4 := Lib.hid hw4; obtain ⟨⟨c0, c1, c2, c3, c4, c5, c6⟩, _⟩ := HLF4.out.seven; clear hs4 hs4' hw4; simp only []))
    all_goals
      clear y0 y1 y2 y3 y4 y5 y6 b0 b1 b2 b3 b4
      have hA := wadd_any (strOf t3) (by rw [strOf_size]; have := HU.out.2.2.2; omega) HW4.out
      rw [numsOf_strOf HU.out.2.2.1] at hA
      have HFIN : Hid (addZ (addZ (addZ st t1) ca) t3 = res) := by unfold Hid; rw [addZ_add, addZ_add, ← HRES.out]; congr 1; simp [bodyT]
      go_wp2_with fail
      refine hA.mono ?_
      rintro e w5 ⟨rfl, hs5, hw5⟩
      rw [HFIN.out] at hw5
      have HE : Hid (WzEnd P w res (.returned (.tuple #[])) w5) := ⟨rfl, HS4.out.trans hs5, hw5⟩
      clear hA hs5 hw5
      go_wp2
      go_end0
      exact HE.out
  · obtain ⟨⟨y0, y1, y2, y3, y4, y5, y6⟩, _⟩ := HLF3.out.seven
    obtain ⟨⟨b0, b1, b2, b3, b4⟩, _⟩ := HLN3.out.five
    obtain ⟨a', ea, ha, hC⟩ := HCA.out (by decide)
    obtain ⟨d', ed, hd, hC2⟩ := HCB.out (by decide)
    rw [ea] at b2
    rw [ed] at b3
    have hk1 : (0 : Int) ≤ (a' : Int) + 1 := by omega
    have hk2 : (a' : Int) + 1 ≤ (c : Int) := by omega
    have hk3 : (a' : Int) ≤ 140737488355328 := by omega
    have HC := Lib.hid hC
    have HC2 := Lib.hid hC2
    have hD : (D : Int) ≤ 64 := by omega
    have hw1 : IntKind.i64.wrap ((a' : Int) + 1) = (a' : Int) + 1 := IntWalk.i64_in _ (by omega)
    have hw2 : IntKind.i64.wrap ((D : Int) + 1) = (D : Int) + 1 := IntWalk.i64_in _ (by omega)
    have hk4 : ((a' : Int) + 1).toNat = a' + 1 := by omega
    have HED : Hid (x.b = (d' : Int)) := ed
    have HDM : Hid (d' < m) := hd
    clear hC hC2 ed hd
    go_upto_region 4 with (fail)
    go_region_law (first | (go_simp; go_at_call 66; refine (HC.out _ _ (by first | exact HW3.out | exact HW3.out.drew) (by first | exact HS3.out | exact HS3.out.drew)).mono ?_; rintro e w4 ⟨rfl, hs4, hw4⟩; have hs4' : Sy P w3 w4 := (by first | exact hs4 | exact Sy.undrew hs4); have HS4 := Lib.hid (HS3.out.trans hs4'); have HLF4 := Lib.hid (hs4'.lies _ _ _ HTY.out.1 HNE.out.1 HLF3.out); have HLN4 := Lib.hid (hs4'.lies _ _ _ HTY.out.2 HNE.out.2 HLN3.out); have HW4 := Lib.hid hw4; obtain ⟨⟨c0, c1, c2, c3, c4, c5, c6⟩, _⟩ := HLF4.out.seven; clear hs4 hs4' hw4; simp only []))
    all_goals
      clear y0 y1 y2 y3 y4 y5 y6 b0 b1 b2 b3 b4 hk1 hk2 hk3 hk4 hw1
      have hA := wadd_any (strOf t2) (by rw [strOf_size]; have := HU.out.2.1; omega) HW4.out
      rw [numsOf_strOf HU.out.1] at hA
      go_wp2_with fail
      refine hA.mono ?_
      rintro e w5 ⟨rfl, hs5, hw5⟩
      clear hA c0 c1 c2 c3 c4 c5 c6
      have HS5 := Lib.hid (HS4.out.trans hs5)
      have HLF5 := Lib.hid (hs5.lies _ _ _ HTY.out.1 HNE.out.1 HLF4.out)
      have HLN5 := Lib.hid (hs5.lies _ _ _ HTY.out.2 HNE.out.2 HLN4.out)
      have HW5 := Lib.hid hw5
      clear hs5 hw5
      obtain ⟨⟨y0, y1, y2, y3, y4, y5, y6⟩, _⟩ := HLF5.out.seven
      obtain ⟨⟨b0, b1, b2, b3, b4⟩, _⟩ := HLN5.out.five
      rw [HED.out] at b3
      have hdm := HDM.out
      have hk1 : (0 : Int) ≤ (d' : Int) + 1 := by omega
      have hk2 : (d' : Int) + 1 ≤ (c : Int) := by omega
      have hk3 : (d' : Int) ≤ 140737488355328 := by omega
      have hw1 : IntKind.i64.wrap ((d' : Int) + 1) = (d' : Int) + 1 := IntWalk.i64_in _ (by omega)
      have hk4 : ((d' : Int) + 1).toNat = d' + 1 := by omega
      go_upto_region 7 with (fail)
      go_region_law (first | (go_simp; go_at_call 66; refine (HC2.out _ _ (by first | exact HW5.out | exact HW5.out.drew) (by first | exact HS5.out | exact HS5.out.drew)).mono ?_; rintro e w6 ⟨rfl, hs6, hw6⟩; have hs6' : Sy P w5 w6 := (by first | exact hs6 | exact Sy.undrew hs6); have HS6 := Lib.hid (HS5.out.trans hs6'); have HLF6 := Lib.hid (hs6'.lies _ _ _ HTY.out.1 HNE.out.1 HLF5.out); have HLN6 := Lib.hid (hs6'.lies _ _ _ HTY.out.2 HNE.out.2 HLN5.out); have HW6 := Lib.hid hw6; obtain ⟨⟨c0, c1, c2, c3, c4, c5, c6⟩, _⟩ := HLF6.out.seven; clear hs6 hs6' hw6; simp only []))
      all_goals
        clear y0 y1 y2 y3 y4 y5 y6 b0 b1 b2 b3 b4
        have hA := wadd_any (strOf t3) (by rw [strOf_size]; have := HU.out.2.2.2; omega) HW6.out
        rw [numsOf_strOf HU.out.2.2.1] at hA
        have HFIN : Hid (addZ (addZ (addZ (addZ (addZ st t1) ca) t2) cb) t3 = res) := by unfold Hid; rw [addZ_add, addZ_add, addZ_add, addZ_add, ← HRES.out]; congr 1; simp [bodyT]
        go_wp2_with fail
        refine hA.mono ?_
        rintro e w7 ⟨rfl, hs7, hw7⟩
        rw [HFIN.out] at hw7
        have HE : Hid (WzEnd P w res (.returned (.tuple #[])) w7) := ⟨rfl, HS6.out.trans hs7, hw7⟩
        clear hA hs7 hw7
        go_wp2
        go_end0
        exact HE.out
/-- Nodes are written, at all depths. -/
theorem nodes_ok : ∀ f, f ≤ 64 → NodeOk f
  | 0, hf => node_of_form 0 hf (form_ok 0 hf (fun g e => by cases e))
  | f + 1, hf => node_of_form (f + 1) hf (form_ok (f + 1) hf (fun g e => by cases e; exact nodes_ok f (by omega)))
end Go.Proofs.YthhlmalpelgpeaaGreatDoor

/-
  The writer of rules: expressions, a rule.
-/
namespace Go.Proofs.YthhlmalpelgpeaaGreatDoor
open Go.RowKit

section
variable {w0 w : World} {P : Nat} {st : Option (List Nat)} {ns : List Zq.Nd} {v : Value}
set_option maxHeartbeats 1000000 in
set_option maxRecDepth 100000 in
theorem wexpr_any (hH : HeldZ w0) (hB : Below w0.heap.size w0 w) (hP : w0.heap.size ≤ P) (hW : Wz P st w) (hN : NsW w (· < P) v ns) :
    Calls Tryz.prog 42 #[.pointer (some ⟨P, 0, none⟩), v] w (WzEnd P w (addZ st (Zq.written ns))) := by
  obtain ⟨A, c, rfl⟩ := hN.form
  by_cases h0 : ns.length = 0
  · have hns : ns = [] := List.eq_nil_of_length_eq_zero h0
    have hd : decide ((0 : Int) < (ns.length : Int)) = false := decide_eq_false (by omega)
    have HE : Hid (WzEnd P w (addZ st (Zq.written ns)) (.returned (.tuple #[])) w) := ⟨rfl, Sy.refl _ _, by rw [hns, show Zq.written [] = [] from rfl, addZ_nil st hW.small]; exact hW⟩
    clear hH hB hP hW hN hns
    go_enter Tryz.func42, Tryz.ntmps42
    go_wp2
    go_end0
    exact HE.out
  · have hC := nodes_ok 64 (by decide) w0 P st ns A ns.length c 0 w hH hB hP hW hN rfl (by omega) (by decide)
    rw [parT_zero] at hC
    have hwr : Zq.node ns 64 (ns.length - 1) = Zq.written ns := by unfold Zq.written; rw [if_neg (fun e => h0 (by rw [e]; rfl))]
    rw [hwr] at hC
    have hpos : 0 < ns.length := by omega
    have hd : decide ((0 : Int) < (ns.length : Int)) = true := decide_eq_true (by omega)
    clear hH hB hP hW hN hwr h0
    go_enter Tryz.func42, Tryz.ntmps42
    go_wp2_with fail
    refine hC.mono ?_
    rintro e w1 ⟨rfl, hs, hw⟩
    have HE : Hid (WzEnd P w (addZ st (Zq.written ns)) (.returned (.tuple #[])) w1) := ⟨rfl, hs, hw⟩
    clear hC hs hw
    go_wp2
    go_end0
    exact HE.out
end
/-- A rule in memory that can be written. -/
def RlW (w : World) (ok : Nat → Prop) (u : List Nat × Value × Value) (r : Zq.Rl) : Prop :=
  u.1 = r.name ∧ (∀ x ∈ r.name, x < 256) ∧ r.name.length ≤ 35184372088832 ∧ NsW w ok u.2.1 r.expr ∧ NsW w ok u.2.2 r.cond
theorem RlW.keep {w w' : World} {ok ok' : Nat → Prop} {u : List Nat × Value × Value} {r : Zq.Rl} (h : RlW w ok u r) (hs : w.heap.size ≤ w'.heap.size) (hk : ∀ b, ok b → b < w.heap.size → ok' b ∧ w'.heap[b]? = w.heap[b]?) : RlW w' ok' u r := by
  obtain ⟨h1, h2, h3, h4, h5⟩ := h
  exact ⟨h1, h2, h3, h4.keep hs hk, h5.keep hs hk⟩
abbrev rlV (u : List Nat × Value × Value) : Value := .agg #[.string (strOf u.1), u.2.1, u.2.2]
section
variable {w0 w : World} {P : Nat} {st : Option (List Nat)}
set_option maxHeartbeats 2000000 in
set_option maxRecDepth 100000 in
theorem wrule_any (r : Zq.Rl) (ev wv : Value) (hH : HeldZ w0) (hB : Below w0.heap.size w0 w) (hP : w0.heap.size ≤ P) (hW : Wz P st w) (hR : RlW w (· < P) (r.name, ev, wv) r) :
    Calls Tryz.prog 27 #[.pointer (some ⟨P, 0, none⟩), rlV (r.name, ev, wv)] w (WzEnd P w (addZ st (Zq.ruleW r))) := by
  obtain ⟨_, hn1, hn2, hE, hC⟩ := hR
  simp only at hE hC
  obtain ⟨Ae, ce, rfl⟩ := hE.form
  obtain ⟨Ac, cc, rfl⟩ := hC.form
  have hPw := hW.lt
  obtain ⟨W1, eW1⟩ : ∃ W1, W1 = w.alloc (.cells #[.string (strOf r.name), .slice Ae r.expr.length ce, .slice Ac r.cond.length cc] 35) := ⟨_, rfl⟩
  have hb1 : Below w.heap.size w W1 := by rw [eW1]; exact box_below _ _
  have hl1 : Lies W1 w.heap.size 35 [.string (strOf r.name), .slice Ae r.expr.length ce, .slice Ac r.cond.length cc] := by rw [eW1]; exact Lies.new_ rfl
  have HS1 : Hid (Sy P w W1) := Sy.of_below hb1 (Nat.le_of_lt hPw)
  have HX : Hid (∀ st v ns w', Wz P st w' → Sy P w w' → NsW w (· < P) v ns → Calls Tryz.prog 42 #[.pointer (some ⟨P, 0, none⟩), v] w' (WzEnd P w' (addZ st (Zq.written ns)))) := fun st v ns w' h1 h2 h3 => wexpr_any hH (hB.trans (h2.below.mono hP)) hP h1 (h3.sy h2)
  have HE := Lib.hid hE
  have HC := Lib.hid hC
  have HL1 := Lib.hid hl1
  have HNE : Hid (w.heap.size ≠ P) := by unfold Hid; omega
  have HTY : Hid ((35 : TypeId) ≠ 5) := by unfold Hid; decide
  have HW1 := Lib.hid (hW.keep hb1)
  have HNM : Hid ((∀ x ∈ r.name, x < 256) ∧ r.name.length ≤ 35184372088832) := ⟨hn1, hn2⟩
  have HWE := Lib.hid eW1
  obtain ⟨res, eres⟩ : ∃ res, addZ st (Zq.ruleW r) = res := ⟨_, rfl⟩
  rw [eres]
  have HRES := Lib.hid eres
  by_cases h0 : r.name = []
  · have hnm : strOf r.name = { data := #[] } := by rw [h0]; rfl
    have hA := wadd_any { data := #[100, 101, 110, 121, 32, 119, 104, 101, 110, 32] } (by decide) HW1.out
    rw [show numsOf { data := #[100, 101, 110, 121, 32, 119, 104, 101, 110, 32] } = [100, 101, 110, 121, 32, 119, 104, 101, 110, 32] from rfl, eW1] at hA
    have HRW : Hid (Zq.ruleW r = [100, 101, 110, 121, 32, 119, 104, 101, 110, 32] ++ Zq.written r.cond) := by unfold Hid Zq.ruleW; rw [if_pos h0]; rfl
    rw [hnm] at hA
    have HL1' : Hid (Lies W1 w.heap.size 35 [.string { data := #[] }, .slice Ae r.expr.length ce, .slice Ac r.cond.length cc]) := by unfold Hid; rw [← hnm]; exact HL1.out
    have HWE' : Hid (W1 = w.alloc (.cells #[.string { data := #[] }, .slice Ae r.expr.length ce, .slice Ac r.cond.length cc] 35)) := by unfold Hid; rw [← hnm]; exact HWE.out
    unfold rlV
    rw [hnm]
    clear hH hB hP hW hE hC hPw hb1 hl1 eW1 eres hn1 hn2 h0 hnm
    go_enter Tryz.func27, Tryz.ntmps27
    go_wp2_with fail
    refine hA.mono ?_
    rintro e w2 ⟨rfl, hs2, hw2⟩
    clear hA
    rw [← HWE'.out] at hs2
    have HS2 := Lib.hid (HS1.out.trans hs2)
    have hX := HX.out _ _ _ w2 hw2 HS2.out HC.out
    have hl2 := hs2.lies _ _ _ HTY.out HNE.out HL1'.out
    obtain ⟨⟨y0, y1, y2⟩, _⟩ := hl2.cells3
    clear hs2 hw2 hl2
    go_wp2_with fail
    refine hX.mono ?_
    rintro e w3 ⟨rfl, hs3, hw3⟩
    have HEN : Hid (WzEnd P w res (.returned (.tuple #[])) w3) := ⟨rfl, HS2.out.trans hs3, by rw [addZ_add, ← HRW.out, HRES.out] at hw3; exact hw3⟩
    clear hX hs3 hw3
    go_wp2
    go_end0
    exact HEN.out
  · have hnl : (strOf r.name).toList.isEmpty = false := by
      rw [ByteArray.toList_eq]
      cases hh : (strOf r.name).data.toList with
      | nil =>
        exfalso
        apply h0
        have : (strOf r.name).size = 0 := by
          have := congrArg List.length hh
          rw [Array.length_toList] at this
          exact this
        rw [strOf_size] at this
        exact List.eq_nil_of_length_eq_zero this
      | cons a b => rfl
    have hA := wadd_any (strOf r.name) (by rw [strOf_size]; omega) HW1.out
    rw [numsOf_strOf hn1, eW1] at hA
    have hA2 := fun st w' (h : Wz P st w') => wadd_any { data := #[32, 61, 32] } (by decide) h
    have hA3 := fun st w' (h : Wz P st w') => wadd_any { data := #[32, 119, 104, 101, 110, 32] } (by decide) h
    have HA2 := Lib.hid hA2
    have HA3 := Lib.hid hA3
    have HRW : Hid (Zq.ruleW r = r.name ++ ([32, 61, 32] ++ (Zq.written r.expr ++ (if r.cond = [] then [] else [32, 119, 104, 101, 110, 32] ++ Zq.written r.cond)))) := by
      unfold Hid Zq.ruleW
      rw [if_neg h0]
      simp [Zq.wWhen]
    clear hH hB hP hW hE hC hPw hb1 hl1 eW1 eres hn1 hn2 h0 hA2 hA3
    go_enter Tryz.func27, Tryz.ntmps27
    go_wp2_with fail
    refine hA.mono ?_
    rintro e w2 ⟨rfl, hs2, hw2⟩
    clear hA
    rw [← HWE.out] at hs2
    have HS2 := Lib.hid (HS1.out.trans hs2)
    have HL2 := Lib.hid (hs2.lies _ _ _ HTY.out HNE.out HL1.out)
    have hA := HA2.out _ _ hw2
    clear hs2 hw2
    go_wp2_with fail
    refine hA.mono ?_
    rintro e w3 ⟨rfl, hs3, hw3⟩
    clear hA
    have HS3 := Lib.hid (HS2.out.trans hs3)
    have HL3 := Lib.hid (hs3.lies _ _ _ HTY.out HNE.out HL2.out)
    have hX := HX.out _ _ _ w3 hw3 HS3.out HE.out
    obtain ⟨⟨y0, y1, y2⟩, _⟩ := HL3.out.cells3
    clear hs3 hw3
    go_wp2_with fail
    refine hX.mono ?_
    rintro e w4 ⟨rfl, hs4, hw4⟩
    clear hX y0 y1 y2
    have HS4 := Lib.hid (HS3.out.trans hs4)
    have HL4 := Lib.hid (hs4.lies _ _ _ HTY.out HNE.out HL3.out)
    obtain ⟨⟨y0, y1, y2⟩, _⟩ := HL4.out.cells3
    rw [show numsOf { data := #[32, 61, 32] } = [32, 61, 32] from rfl, addZ_add, addZ_add] at hw4
    have HW4 := Lib.hid hw4
    clear hs4 hw4
    by_cases hc : r.cond = []
    · have hcl : r.cond.length = 0 := by rw [hc]; rfl
      have hd : decide ((0 : Int) < (r.cond.length : Int)) = false := decide_eq_false (by omega)
      have HEN : Hid (WzEnd P w res (.returned (.tuple #[])) w4) := by
        refine ⟨rfl, HS4.out, ?_⟩
        have := HW4.out
        rw [← HRES.out, HRW.out, if_pos hc, List.append_nil]
        exact this
      clear hc
      go_wp2
      go_end0
      exact HEN.out
    · have hcl : 0 < r.cond.length := by
        rcases Nat.eq_zero_or_pos r.cond.length with h | h
        · exact absurd (List.eq_nil_of_length_eq_zero h) hc
        · exact h
      have hd : decide ((0 : Int) < (r.cond.length : Int)) = true := decide_eq_true (by omega)
      have hA := HA3.out _ _ HW4.out
      have HFIN : Hid (addZ (addZ (addZ st (r.name ++ ([32, 61, 32] ++ Zq.written r.expr))) [32, 119, 104, 101, 110, 32]) (Zq.written r.cond) = res) := by
        unfold Hid
        rw [addZ_add, addZ_add, ← HRES.out, HRW.out, if_neg hc]
        congr 1
        simp
      rw [show numsOf { data := #[32, 119, 104, 101, 110, 32] } = [32, 119, 104, 101, 110, 32] from rfl] at hA
      clear hc
      go_wp2_with fail
      refine hA.mono ?_
      rintro e w5 ⟨rfl, hs5, hw5⟩
      clear hA y0 y1 y2
      have HS5 := Lib.hid (HS4.out.trans hs5)
      have HL5 := Lib.hid (hs5.lies _ _ _ HTY.out HNE.out HL4.out)
      have hX := HX.out _ _ _ w5 hw5 HS5.out HC.out
      obtain ⟨⟨y0, y1, y2⟩, _⟩ := HL5.out.cells3
      clear hs5 hw5
      go_wp2_with fail
      refine hX.mono ?_
      rintro e w6 ⟨rfl, hs6, hw6⟩
      have HEN : Hid (WzEnd P w res (.returned (.tuple #[])) w6) := ⟨rfl, HS5.out.trans hs6, by rw [HFIN.out] at hw6; exact hw6⟩
      clear hX hs6 hw6
      go_wp2
      go_end0
      exact HEN.out
end
end Go.Proofs.YthhlmalpelgpeaaGreatDoor

/-
  The writer of rules: all rules.
-/
namespace Go.Proofs.YthhlmalpelgpeaaGreatDoor
open Go.RowKit

theorem spersed_more (S x : List Nat) : ∀ L : List (List Nat), ((L ++ [x]).intersperse S).flatten = (L.intersperse S).flatten ++ ((if L = [] then [] else S) ++ x)
  | [] => by simp
  | [a] => by simp
  | a :: b :: r => by
    have := spersed_more S x (b :: r)
    simp only [List.cons_append, List.intersperse_cons_cons, List.flatten_cons, if_neg (List.cons_ne_nil _ _)] at this ⊢
    rw [this]
    simp
theorem whole_take {rs : List Zq.Rl} {k : Nat} {r : Zq.Rl} (h : rs[k]? = some r) :
    Zq.whole (rs.take (k + 1)) = Zq.whole (rs.take k) ++ ((if k = 0 then [] else [59, 32]) ++ Zq.ruleW r) := by
  have hk : k < rs.length := (List.getElem?_eq_some_iff.1 h).1
  unfold Zq.whole
  rw [List.take_add_one, h, List.map_append]
  have := spersed_more [59, 32] (Zq.ruleW r) ((rs.take k).map Zq.ruleW)
  rw [show (some r).toList.map Zq.ruleW = [Zq.ruleW r] from rfl, this]
  congr 2
  by_cases h0 : k = 0
  · subst h0; simp
  · rw [if_neg h0, if_neg]
    intro e
    have := congrArg List.length e
    rw [List.length_map, List.length_take, List.length_nil] at this
    omega
theorem whole_part (rs : List Zq.Rl) : ∀ n k, rs.length = k + n → ∃ X, Zq.whole rs = Zq.whole (rs.take k) ++ X
  | 0, k, h => ⟨[], by rw [List.take_of_length_le (by omega), List.append_nil]⟩
  | n + 1, k, h => by
    obtain ⟨X, hX⟩ := whole_part rs n (k + 1) (by omega)
    have hk : rs[k]? = some (rs[k]'(by omega)) := List.getElem?_eq_getElem (by omega)
    rw [whole_take hk, List.append_assoc] at hX
    exact ⟨_, hX⟩
theorem addZ_none (X : List Nat) : addZ none X = none := rfl
theorem whole_over {rs : List Zq.Rl} {st : Option (List Nat)} {k : Nat} (hk : k ≤ rs.length) (h : addZ st (Zq.whole (rs.take k)) = none) : addZ st (Zq.whole rs) = none := by
  obtain ⟨X, hX⟩ := whole_part rs (rs.length - k) k (by omega)
  rw [hX, ← addZ_add, h]
  rfl
/-- Rules in memory that can be written. -/
def RsW (w : World) (ok : Nat → Prop) (v : Value) (rs : List Zq.Rl) : Prop :=
  ∃ A c, v = .slice A rs.length c ∧ rs.length ≤ c ∧ c ≤ 9223372036854775807 ∧ rs.length ≤ 140737488355328 ∧ ∃ us : List (List Nat × Value × Value), us.length = rs.length ∧
    (∀ (i : Nat) u r, us[i]? = some u → rs[i]? = some r → RlW w ok u r) ∧
    (0 < rs.length → ∃ b off, A = some ⟨b, off, none⟩ ∧ ok b ∧ b < w.heap.size ∧ ∀ j x, (rcells3 us)[j]? = some x → w.cell? ⟨b, off + j, none⟩ = some x)
theorem rcells3_at : ∀ (us : List (List Nat × Value × Value)) (i j : Nat) (u : List Nat × Value × Value), us[i]? = some u → j < 3 → (rcells3 us)[i * 3 + j]? = (rcell u)[j]?
  | [], i, j, n, h, _ => by simp at h
  | a :: r, 0, j, n, h, hj => by
    simp at h
    subst h
    show (rcell a ++ rcells3 r)[0 * 3 + j]? = _
    rw [List.getElem?_append_left (by simp; omega)]
    simp
  | a :: r, i + 1, j, n, h, hj => by
    show (rcell a ++ rcells3 r)[(i + 1) * 3 + j]? = _
    rw [List.getElem?_append_right (by simp; omega), show (i + 1) * 3 + j - (rcell a).length = i * 3 + j from by simp; omega]
    exact rcells3_at r i j n (by simpa using h) hj
section
variable {w w' : World} {ok ok' : Nat → Prop} {v : Value} {rs : List Zq.Rl} {A : Option Addr} {n c : Nat}
theorem RsW.keep (h : RsW w ok v rs) (hs : w.heap.size ≤ w'.heap.size) (hk : ∀ b, ok b → b < w.heap.size → ok' b ∧ w'.heap[b]? = w.heap[b]?) : RsW w' ok' v rs := by
  obtain ⟨A, c, rfl, h1, h2, h3, us, h4, h5, h6⟩ := h
  refine ⟨A, c, rfl, h1, h2, h3, us, h4, fun i u r e1 e2 => (h5 i u r e1 e2).keep hs hk, fun h => ?_⟩
  obtain ⟨b, off, rfl, k1, k2, k3⟩ := h6 h
  obtain ⟨g1, g2⟩ := hk b k1 k2
  exact ⟨b, off, rfl, g1, Nat.lt_of_lt_of_le k2 hs, fun j x e => (World.cell?_of_block (a := ⟨b, off + j, none⟩) g2).trans (k3 j x e)⟩
theorem RsW.form (h : RsW w ok v rs) : ∃ A c, v = .slice A rs.length c := by
  obtain ⟨A, c, e, _⟩ := h
  exact ⟨A, c, e⟩
theorem RsW.sy {P : Nat} (h : RsW w (· < P) v rs) (hs : Sy P w w') : RsW w' (· < P) v rs := h.keep hs.size (fun b hb _ => ⟨hb, hs.below.block b hb⟩)
/-- The rule at a place: its cells. -/
theorem RsW.elem (h : RsW w ok (.slice A n c) rs) {i : Nat} (hi : i < rs.length) :
    ∃ b off r A1 c1 A2 c2, A = some ⟨b, off, none⟩ ∧ ok b ∧ b < w.heap.size ∧ rs[i]? = some r ∧ RlW w ok (r.name, .slice A1 r.expr.length c1, .slice A2 r.cond.length c2) r ∧
      w.cell? ⟨b, off + i * 3, none⟩ = some (.string (strOf r.name)) ∧ w.cell? ⟨b, off + i * 3 + 1, none⟩ = some (.slice A1 r.expr.length c1) ∧ w.cell? ⟨b, off + i * 3 + 2, none⟩ = some (.slice A2 r.cond.length c2) := by
  obtain ⟨A', c', e, h1, h2, h3, us, h4, h5, h6⟩ := h
  injection e with e1 e2 e3
  subst e1 e3
  obtain ⟨b, off, rfl, k1, k2, k3⟩ := h6 (by omega)
  have hx : rs[i]? = some rs[i] := List.getElem?_eq_getElem hi
  have hu : us[i]? = some (us[i]'(by omega)) := List.getElem?_eq_getElem (by omega)
  have hR := h5 i _ _ hu hx
  generalize us[i]'(by omega) = u at hu hR
  generalize rs[i] = r at hx hR
  obtain ⟨t, ev, wv⟩ := u
  obtain ⟨g1, g2, g3, g4, g5⟩ := hR
  simp only at g1 g4 g5
  subst g1
  obtain ⟨A1, c1, rfl⟩ := g4.form
  obtain ⟨A2, c2, rfl⟩ := g5.form
  have hc : ∀ j y, j < 3 → (rcell (r.name, .slice A1 r.expr.length c1, .slice A2 r.cond.length c2))[j]? = some y → w.cell? ⟨b, off + (i * 3 + j), none⟩ = some y := fun j y hj hy => k3 _ y (by rw [rcells3_at us i j _ hu hj, hy])
  refine ⟨b, off, r, A1, c1, A2, c2, rfl, k1, k2, hx, ⟨rfl, g2, g3, g4, g5⟩, hc 0 _ (by omega) rfl, ?_, ?_⟩
  all_goals rw [Nat.add_assoc]
  · exact hc 1 _ (by omega) rfl
  · exact hc 2 _ (by omega) rfl
end
/-- How far the rules are written. -/
def RwRel (P : Nat) (w : World) (st : Option (List Nat)) (rs : List Zq.Rl) (i : Value) (wr : World) : Prop :=
  ∃ k : Nat, i = .int .i64 k ∧ k ≤ rs.length ∧ Sy P w wr ∧ Wz P (addZ st (Zq.whole (rs.take k))) wr
section
variable {w0 w : World} {P : Nat} {st : Option (List Nat)} {rs : List Zq.Rl} {v : Value}
set_option maxHeartbeats 1000000 in
set_option maxRecDepth 100000 in
theorem wrules_any (hH : HeldZ w0) (hB : Below w0.heap.size w0 w) (hP : w0.heap.size ≤ P) (hW : Wz P st w) (hR : RsW w (· < P) v rs) :
    Calls Tryz.prog 17 #[.pointer (some ⟨P, 0, none⟩), v] w (WzEnd P w (addZ st (Zq.whole rs))) := by
  obtain ⟨A, c, rfl⟩ := hR.form
  obtain ⟨n, en⟩ : ∃ n, rs.length = n := ⟨_, rfl⟩
  have hPw := hW.lt
  have hn : n ≤ 140737488355328 := by
    obtain ⟨_, _, _, _, _, k, _⟩ := hR
    omega
  rw [en]
  rw [en] at hR
  have HN := Lib.hid en
  have H0 : Hid (RwRel P w st rs (.int .i64 (0 : Nat)) w) := ⟨0, rfl, Nat.zero_le _, Sy.refl _ _, by rw [List.take_zero, show Zq.whole [] = [] from rfl, addZ_nil st hW.small]; exact hW⟩
  have HR := Lib.hid hR
  have HPW : Hid (P < w.heap.size) := hPw
  have HX : Hid (∀ st r ev wv w', Wz P st w' → Sy P w w' → RlW w' (· < P) (r.name, ev, wv) r → Calls Tryz.prog 27 #[.pointer (some ⟨P, 0, none⟩), rlV (r.name, ev, wv)] w' (WzEnd P w' (addZ st (Zq.ruleW r)))) := fun st r ev wv w' h1 h2 h3 => wrule_any r ev wv hH (hB.trans (h2.below.mono hP)) hP h1 h3
  obtain ⟨res, eres⟩ : ∃ res, addZ st (Zq.whole rs) = res := ⟨_, rfl⟩
  rw [eres]
  have HRES := Lib.hid eres
  clear hH hB hP hW hR hPw eres en
  go_enter Tryz.func17, Tryz.ntmps17
  go_wp2_with fail
  go_loopw [8] (fun i wr => RwRel P w st rs i wr) (fun i _ => n - (intOf i).toNat)
  case atStart => exact H0.out
  case round =>
    obtain ⟨k, rfl, hk, hs, hw⟩ := hrel
    have HK : Hid (k ≤ rs.length) := hk
    have HS := Lib.hid hs
    have HW := Lib.hid hw
    rw [HN.out] at hk
    by_cases hlt : k < n
    · obtain ⟨b, off, r, A1, c1, A2, c2, rfl, hb, hbw, hr, hrl, s0, s1, s2⟩ := (HR.out.sy hs).elem (i := k) (by rw [HN.out]; exact hlt)
      have hPr := hw.lt
      obtain ⟨W1, eW1⟩ : ∃ W1, W1 = wr.alloc (.cells #[.string (strOf r.name), .slice A1 r.expr.length c1, .slice A2 r.cond.length c2] 35) := ⟨_, rfl⟩
      have hb1 : Below wr.heap.size wr W1 := by rw [eW1]; exact box_below _ _
      have hl1 : Lies W1 wr.heap.size 35 [.string (strOf r.name), .slice A1 r.expr.length c1, .slice A2 r.cond.length c2] := by rw [eW1]; exact Lies.new_ rfl
      have HS1 := Lib.hid (hs.trans (Sy.of_below hb1 (Nat.le_of_lt hPr)))
      have HL1 := Lib.hid hl1
      have HRL := Lib.hid (hrl.keep (w' := W1) (ok' := (· < P)) hb1.size (fun b hb hlt => ⟨hb, hb1.block b hlt⟩))
      have HNE : Hid (wr.heap.size ≠ P) := by unfold Hid; omega
      have HTY : Hid ((35 : TypeId) ≠ 5) := by unfold Hid; decide
      have HR1 := Lib.hid hr
      have hw1 := hw.keep hb1
      have HWE := Lib.hid eW1
      obtain ⟨st', est⟩ : ∃ st', addZ st (Zq.whole (rs.take k)) = st' := ⟨_, rfl⟩
      rw [est] at hw1
      have HST := Lib.hid est
      cases st' with
      | none =>
        have fl := hw1.flag
        have HEN : Hid (WzEnd P w res (.returned (.tuple #[])) W1) := ⟨rfl, HS1.out, by rw [← HRES.out, whole_over HK.out HST.out]; exact hw1⟩
        simp only [Option.isNone_none] at fl
        rw [eW1] at fl
        clear hs hw hw1 hl1 hrl hr hb1 eW1 est
        go_wp2
        (try simp only [Exit.inBlock, Exit.then])
        refine bodyPost_ret (results_none rfl _ _ _) rfl ?_
        rw [← HWE.out]
        exact HEN.out
      | some T =>
        have fl := hw1.flag
        simp only [Option.isNone_some] at fl
        rw [eW1] at fl
        have HW1 := Lib.hid hw1
        by_cases h0 : k = 0
        · have hd : decide (0 < k) = false := decide_eq_false (by omega)
          have hX := HX.out _ r _ _ W1 hw1 HS1.out HRL.out
          have HEQ : Hid (addZ (some T) (Zq.ruleW r) = addZ st (Zq.whole (rs.take (k + 1)))) := by
            unfold Hid
            rw [← HST.out, addZ_add, whole_take HR1.out, if_pos h0]
            rfl
          obtain ⟨⟨y0, y1, y2⟩, _⟩ := hl1.cells3
          rw [eW1] at y0 y1 y2 hX
          clear hs hw hw1 hl1 hrl hr hb1 eW1 est h0
          go_wp2_with fail
          refine hX.mono ?_
          rintro e w2 ⟨rfl, hs2, hw2⟩
          clear hX
          rw [← HWE.out] at hs2
          have hs3 := HS1.out.trans hs2
          rw [HEQ.out] at hw2
          clear hs2 y0 y1 y2
          go_wp2
          go_roundw
          case rel => exact ⟨k + 1, by go_num, by rw [HN.out]; omega, hs3, hw2⟩
          case measure => simp [intOf]; omega
        · have hd : decide (0 < k) = true := decide_eq_true (by omega)
          have hA := wadd_any { data := #[59, 32] } (by decide) hw1
          rw [show numsOf { data := #[59, 32] } = [59, 32] from rfl, eW1] at hA
          have HEQ : Hid (addZ (addZ (some T) [59, 32]) (Zq.ruleW r) = addZ st (Zq.whole (rs.take (k + 1)))) := by
            unfold Hid
            rw [← HST.out, addZ_add, addZ_add, whole_take HR1.out, if_neg h0]
          clear hs hw hw1 hl1 hrl hr hb1 eW1 est h0
          go_wp2_with fail
          refine hA.mono ?_
          rintro e w2 ⟨rfl, hs2, hw2⟩
          clear hA
          rw [← HWE.out] at hs2
          have HS2 := Lib.hid (HS1.out.trans hs2)
          have hX := HX.out _ r _ _ w2 hw2 HS2.out (HRL.out.keep hs2.size (fun b hb _ => ⟨hb, hs2.below.block b hb⟩))
          have hl2 := hs2.lies _ _ _ HTY.out HNE.out HL1.out
          obtain ⟨⟨y0, y1, y2⟩, _⟩ := hl2.cells3
          clear hs2 hw2 hl2 fl
          go_wp2_with fail
          refine hX.mono ?_
          rintro e w3 ⟨rfl, hs3, hw3⟩
          clear hX
          have hs4 := HS2.out.trans hs3
          rw [HEQ.out] at hw3
          clear hs3 y0 y1 y2
          go_wp2
          go_roundw
          case rel => exact ⟨k + 1, by go_num, by rw [HN.out]; omega, hs4, hw3⟩
          case measure => simp [intOf]; omega
    · obtain rfl : k = n := by omega
      have hd : decide ((k : Int) < (k : Int)) = false := by simp
      have HEN : Hid (WzEnd P w res (.returned (.tuple #[])) wr) := ⟨rfl, hs, by rw [List.take_of_length_le (by rw [HN.out]; exact Nat.le_refl _), HRES.out] at hw; exact hw⟩
      clear hs hw
      go_wp2
      go_end0
      exact HEN.out
end
end Go.Proofs.YthhlmalpelgpeaaGreatDoor

/-
  The writer of rules: Print.
-/
namespace Go.Proofs.YthhlmalpelgpeaaGreatDoor
open Go.RowKit

section
variable {w : World} {ok : Nat → Prop} {rs : List Zq.Rl} {v : Value}
theorem RsW.new_ (h : RsW w ok v rs) (o : Obj) : RsW (w.alloc o) (· < w.heap.size) v rs := by
  have hb : Below w.heap.size w (w.alloc o) := (Below.refl _ _).alloc (Nat.le_refl _) o
  have h' : RsW w (fun b => b < w.heap.size) v rs := by
    obtain ⟨A, c, rfl, h1, h2, h3, us, h4, h5, h6⟩ := h
    have hns : ∀ (v : Value) (ns : List Zq.Nd), NsW w ok v ns → NsW w (· < w.heap.size) v ns := fun v ns ⟨A, c, e, k1, k2, k3, k4, k5⟩ => ⟨A, c, e, k1, k2, k3, k4, fun hp => by
      obtain ⟨b, off, e, _, g2, g3⟩ := k5 hp
      exact ⟨b, off, e, g2, g2, g3⟩⟩
    refine ⟨A, c, rfl, h1, h2, h3, us, h4, fun i u r e1 e2 => ?_, fun hp => ?_⟩
    · obtain ⟨g1, g2, g3, g4, g5⟩ := h5 i u r e1 e2
      exact ⟨g1, g2, g3, hns _ _ g4, hns _ _ g5⟩
    · obtain ⟨b, off, e, _, g2, g3⟩ := h6 hp
      exact ⟨b, off, e, g2, g2, g3⟩
  exact h'.keep hb.size (fun b hb' hlt => ⟨hb', hb.block b hlt⟩)
set_option maxHeartbeats 1000000 in
set_option maxRecDepth 100000 in
theorem printR_any (hH : HeldZ w) (hR : RsW w ok v rs) :
    Calls Tryz.prog 10 #[v] w fun e w' => e = .returned (.string (strOf (Zq.print rs))) ∧ Below w.heap.size w w' ∧ ∀ x ∈ Zq.print rs, x < 256 := by
  obtain ⟨A, c, rfl⟩ := hR.form
  obtain ⟨n, en⟩ : ∃ n, rs.length = n := ⟨_, rfl⟩
  obtain ⟨W1, eW1⟩ : ∃ W1, W1 = w.alloc (.cells #[.slice none 0 0, .bool false] 39) := ⟨_, rfl⟩
  have hb1 : Below w.heap.size w W1 := by rw [eW1]; exact (Below.refl _ _).alloc (Nat.le_refl _) _
  have hl1 : Lies W1 w.heap.size 39 [.slice none 0 0, .bool false] := by rw [eW1]; exact Lies.new_ rfl
  have hW : Wz w.heap.size (some []) W1 := ⟨.slice none 0 0, [], hl1, World.ownsRow_nil _ _ _ _, by simp, by simp, fun T' e => by injection e with e; exact e.symm⟩
  have hR1 : RsW W1 (· < w.heap.size) (.slice A rs.length c) rs := by rw [eW1]; exact hR.new_ _
  have hX := wrules_any hH hb1 (Nat.le_refl _) hW hR1
  rw [en, eW1] at hX
  rw [en]
  have HB1 := Lib.hid hb1
  have HWE := Lib.hid eW1
  clear hH hR hb1 hl1 hW hR1 eW1 en
  go_enter Tryz.func10, Tryz.ntmps10
  go_wp2_with fail
  refine hX.mono ?_
  rintro e w2 ⟨rfl, hs, hw⟩
  clear hX
  rw [← HWE.out] at hs
  have HB2 := Lib.hid (HB1.out.trans hs.below)
  clear hs
  by_cases hl : 4096 < (Zq.whole rs).length
  · have ha : addZ (some []) (Zq.whole rs) = none := by unfold addZ; simp only; rw [if_pos (by simpa using hl)]
    rw [ha] at hw
    have fl := hw.flag
    simp only [Option.isNone_none] at fl
    have HE : Hid (Zq.print rs = []) := by unfold Hid Zq.print; rw [if_pos hl]
    clear hw hl ha
    go_wp2
    go_ret
    exact ⟨by rw [HE.out]; rfl, HB2.out, fun x hx => by rw [HE.out] at hx; cases hx⟩
  · have ha : addZ (some []) (Zq.whole rs) = some (Zq.whole rs) := by unfold addZ; simp only; rw [if_neg (by simpa using hl)]; rfl
    rw [ha] at hw
    have HE : Hid (Zq.print rs = Zq.whole rs) := by unfold Hid Zq.print; rw [if_neg hl]
    obtain ⟨tv, T, h1, h2, h3, h4, h5⟩ := hw
    obtain rfl := h5 _ rfl
    obtain ⟨A0, cap, rfl⟩ := own_slice h2
    have c0 := h1.cell 0
    have c1 : w2.cell? ⟨w.heap.size, 1, none⟩ = some (.bool false) := h1.cell 1
    obtain ⟨_, hA⟩ := own_arg h2 h3
    have hcv := conv_str hA
    have HBY : Hid (∀ x ∈ Zq.print rs, x < 256) := by unfold Hid; rw [HE.out]; exact h3
    rw [← HE.out] at c0 hcv
    clear h1 h2 h3 h4 h5 hl ha hA
    go_wp2
    go_ret
    exact ⟨rfl, HB2.out, HBY.out⟩
end
end Go.Proofs.YthhlmalpelgpeaaGreatDoor
