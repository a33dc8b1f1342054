/-
  The document's Print: operand, over node; what the arms of node want.
-/
import Derived.Test.YthhlmalpelgpeaaGreatDoorZZBw
import Derived.Test.YthhlmalpelgpeaaGreatDoorZZQu
import Derived.Test.YthhlmalpelgpeaaGreatDoorJDec
import Derived.Test.YthhlmalpelgpeaaGreatDoorZZAl
import Derived.Deep.RegionWith
namespace Go.Proofs.YthhlmalpelgpeaaGreatDoor
open Go.RowKit

theorem BsEnd.out {q X : List Nat} {w : World} {e : Ending} {w' : World} (h : BsEnd q X w e w') : Below w.heap.size w w' ∧ ∃ A c q', e = .returned (.slice A q'.length c) ∧ ArgIs w' A c q' ∧ Puts q X q' := h
theorem BsEnd.from {q X : List Nat} {w W : World} {e : Ending} {w' : World} (h : BsEnd q X W e w') (hb : Below w.heap.size w W) : BsEnd q X w e w' := ⟨below_onZ hb h.1, h.2⟩
theorem BsEnd.same {q X Y : List Nat} {w : World} {e : Ending} {w' : World} (h : BsEnd q X w e w') (he : X = Y) : BsEnd q Y w e w' := by subst he; exact h
/-- Nodes whose numbers are numbers. -/
def NumOk (l : List Zq.Nd) : Prop := ∀ x ∈ l, -9223372036854775808 ≤ x.int ∧ x.int ≤ 9223372036854775807
/-- What node does, where so many nodes inside one another may yet be opened. -/
def NodeD (l : List Zq.Nd) (d : Nat) : Prop := ∀ (ok : Nat → Prop) (i : Nat) (q : List Nat) (A A2 : Option Addr) (c n c2 m : Nat) (w : World), i < m → ArgIs w A c q → q.length = n → NsE w ok (.slice A2 m c2) l → l.length = m →
  Calls Tryz.prog 28 #[.slice A n c, .slice A2 m c2, .int .i64 (i : Int), .int .i64 (64 - (d : Int))] w (BsEnd q (Zq.node l d i) w)
/-- An operand, in parentheses or not. -/
def opndP (l : List Zq.Nd) (d i least : Nat) : List Nat := if (l[i]?.map fun x => Zq.binds x.op).getD 0 < least then 40 :: Zq.node l d i ++ [41] else Zq.node l d i
set_option maxHeartbeats 1000000 in
set_option maxRecDepth 100000 in
theorem refOperand_any {l : List Zq.Nd} {d : Nat} (hd : NodeD l d) {ok : Nat → Prop} (i least : Nat) (q : List Nat) (A A2 : Option Addr) (c n c2 m : Nat) (w : World) (hi : i < m) (hq : ArgIs w A c q) (hn : q.length = n) (hN : NsE w ok (.slice A2 m c2) l) (hm : l.length = m) :
    Calls Tryz.prog 46 #[.slice A n c, .slice A2 m c2, .int .i64 (i : Int), .int .i64 (64 - (d : Int)), .int .i64 (least : Int)] w (BsEnd q (opndP l d i least) w) := by
  obtain ⟨b, off, x, rfl, _, _, hx, _, s0, s1, s2, s3, s4⟩ := hN.elem (i := i) (by rw [hm]; exact hi)
  have hB := refBind_any x.op w
  have hnc : n ≤ 9223372036854775807 := by rw [← hn]; exact Nat.le_trans hq.1 hq.2.1
  have hm63 : m ≤ 9223372036854775807 := by
    obtain ⟨_, _, e, h1, h2, _⟩ := hN
    injection e with _ e2 e3
    omega
  obtain ⟨K, eK⟩ : ∃ K, Zq.binds x.op = K := ⟨_, rfl⟩
  rw [eK] at hB
  have HX : Hid (opndP l d i least = if K < least then 40 :: Zq.node l d i ++ [41] else Zq.node l d i) := by unfold Hid opndP; rw [hx]; simp [eK]
  have HD : Hid (NodeD l d) := hd
  have HQ := Lib.hid hq
  have HN := Lib.hid hN
  have HNQ := Lib.hid hn
  have HM := Lib.hid hm
  clear hd hq hN hn hm hx eK
  by_cases hge : least ≤ K
  · have g1 : decide ((least : Int) ≤ (K : Int)) = true := decide_eq_true (by omega)
    have HS : Hid (Zq.node l d i = opndP l d i least) := by unfold Hid; rw [HX.out, if_neg (by omega)]
    have hC := (HD.out ok i q A _ c n c2 m w hi HQ.out HNQ.out HN.out HM.out).mono fun e w' h => h.same HS.out
    go_enter Tryz.func46, Tryz.ntmps46
    go_wp2_with fail
    refine hB.mono ?_
    rintro e w1 ⟨rfl, rfl⟩
    go_wp2_with fail
    refine hC.mono ?_
    rintro e w1 ⟨hb1, A1, c1, q1, rfl, hq1, hp1⟩
    have HE : Hid (BsEnd q (opndP l d i least) w (.returned (.slice A1 q1.length c1)) w1) := ⟨hb1, A1, c1, q1, rfl, hq1, hp1⟩
    clear hB hC hb1 hq1 hp1
    go_wp2
    go_ret
    exact HE.out
  · have g1 : decide ((least : Int) ≤ (K : Int)) = false := decide_eq_false (by omega)
    have HS : Hid (opndP l d i least = [40] ++ (Zq.node l d i ++ [41])) := by unfold Hid; rw [HX.out, if_pos (by omega)]; rfl
    have hC := put_any q { data := #[40] } A c n w HQ.out HNQ.out
    rw [show numsOf { data := #[40] } = [40] from rfl] at hC
    go_enter Tryz.func46, Tryz.ntmps46
    go_wp2_with fail
    refine hB.mono ?_
    rintro e w1 ⟨rfl, rfl⟩
    go_wp2_with fail
    refine hC.mono ?_
    rintro e w1 ⟨hb1, A1, c1, q1, rfl, hq1, hp1⟩
    have HB1 := Lib.hid hb1
    have HP1 := Lib.hid hp1
    have hC2 := HD.out ok i q1 A1 _ c1 _ c2 m w1 hi hq1 rfl (HN.out.more hb1) HM.out
    clear hB hC hb1 hq1 hp1
    go_wp2_with fail
    refine hC2.mono ?_
    rintro e w2 ⟨hb2, A3, c3, q3, rfl, hq3, hp3⟩
    have HB2 := Lib.hid (below_onZ HB1.out hb2)
    have HP2 := Lib.hid (HP1.out.trans hp3)
    have hC3 := put_any q3 { data := #[41] } A3 c3 _ w2 hq3 rfl
    rw [show numsOf { data := #[41] } = [41] from rfl] at hC3
    clear hC2 hb2 hq3 hp3
    go_wp2_with fail
    refine hC3.mono ?_
    rintro e w3 ⟨hb3, A4, c4, q4, rfl, hq4, hp4⟩
    have HE : Hid (BsEnd q (opndP l d i least) w (.returned (.slice A4 q4.length c4)) w3) := ⟨below_onZ HB2.out hb3, A4, c4, q4, rfl, hq4, by rw [HS.out, ← List.append_assoc]; exact HP2.out.trans hp4⟩
    clear hC3 hb3 hq4 hp4
    go_wp2
    go_ret
    exact HE.out
end Go.Proofs.YthhlmalpelgpeaaGreatDoor
