/-
  Whether two values are the same, told by any function that tells it; slices.ContainsFunc over ofTwo's closure.
-/
import Derived.Test.YtnbaajdcakjlmaaDoorMD
import Derived.Test.YtnbaajdcakjlmaaDoorQS
namespace Go.Proofs.YtnbaajdcakjlmaaDoor
open Go.RowKit

theorem sameS_any (S : Mq.Same) {ok ok' : Nat → Prop} (x y : Jq.J) (v u : Value) (w : World) (h : IsJ w ok v x) (k : IsJ w ok' u y) : Calls Tryd.prog 47 #[v, u] w fun e w' => Below w.heap.size w w' ∧ e = .returned (.bool (S.1 x y)) := by
  refine (same_any x y v u w h k).mono ?_
  rintro e w' ⟨hb, ⟨h1, rfl⟩ | ⟨h1, rfl⟩⟩
  · exact ⟨hb, by rw [(S.2 x y).2 h1]⟩
  · refine ⟨hb, ?_⟩
    cases hs : S.1 x y with
    | false => rfl
    | true => exact absurd ((S.2 x y).1 hs) h1
set_option maxHeartbeats 1000000 in
set_option maxRecDepth 100000 in
theorem ofTwo1_any (S : Mq.Same) {ok ok' : Nat → Prop} (a y : Jq.J) (A1 A2 B1 B2 : Option Addr) (c1 c2 d1 d2 N : Nat) (w : World) (hY : IsJ w ok (jv y.kind y.bool y.int (strOf y.text) (.slice B1 y.names.length d1) (.slice B2 y.list.length d2)) y) (hA : IsJ w ok' (jv a.kind a.bool a.int (strOf a.text) (.slice A1 a.names.length c1) (.slice A2 a.list.length c2)) a)
    (hl : Lies w N 27 [.int .i64 a.kind, .bool a.bool, .int .i64 a.int, .string (strOf a.text), .slice A1 a.names.length c1, .slice A2 a.list.length c2]) :
    Calls Tryd.prog 46 #[jv y.kind y.bool y.int (strOf y.text) (.slice B1 y.names.length d1) (.slice B2 y.list.length d2), .pointer (some ⟨N, 0, none⟩)] w fun e w' => Below w.heap.size w w' ∧ e = .returned (.bool (S.1 a y)) := by
  obtain ⟨W, eW⟩ : ∃ W, W = w.alloc (jbox y B1 d1 B2 d2) := ⟨_, rfl⟩
  have hbW : Below w.heap.size w W := by rw [eW]; exact below_new _ _
  have hC := sameS_any S a y _ _ W (hA.on hbW) (hY.on hbW)
  obtain ⟨⟨z0, z1, z2, z3, z4, z5⟩, _⟩ := (hl.below hbW hl.lt).six
  have HB := Lib.hid hbW
  have HW := Lib.hid eW
  rw [eW] at hC z0 z1 z2 z3 z4 z5
  clear hA hY hl hbW eW
  go_enter Tryd.func46, Tryd.ntmps46
  go_wp2_with fail
  refine hC.mono ?_
  rintro e w1 ⟨hb, rfl⟩
  rw [← HW.out] at hb
  have HB2 := Lib.hid (below_more HB.out hb)
  clear hC hb z0 z1 z2 z3 z4 z5
  go_wp2
  go_ret
  exact ⟨HB2.out, rfl⟩
/-- The first that is told, or -1. -/
def AnyEnd (P : Jq.J → Bool) (l : List Jq.J) (w : World) (e : Ending) (w' : World) : Prop := Below w.heap.size w w' ∧ ((∃ k : Nat, e = .returned (.int .i64 (k : Int)) ∧ l.any P = true) ∨ (e = .returned (.int .i64 (-1)) ∧ l.any P = false))
def NoneYet (P : Jq.J → Bool) (l : List Jq.J) (k : Nat) : Prop := (l.take k).any P = false
theorem NoneYet.succ {P : Jq.J → Bool} {l : List Jq.J} {k : Nat} {x : Jq.J} (h : NoneYet P l k) (hx : l[k]? = some x) (hp : P x = false) : NoneYet P l (k + 1) := by
  obtain ⟨h1, h2⟩ := List.getElem?_eq_some_iff.1 hx
  unfold NoneYet at h ⊢
  rw [List.take_succ_eq_append_getElem h1, h2, List.any_append, h]
  simp [hp]
set_option maxHeartbeats 2000000 in
set_option maxRecDepth 100000 in
theorem indexS_any (S : Mq.Same) {ok ok' : Nat → Prop} (a : Jq.J) (A1 A2 : Option Addr) (c1 c2 N : Nat) (l : List Jq.J) (A : Option Addr) (n c : Nat) (w : World) (hL : ListIs w ok (.slice A n c) l) (hl : l.length = n) (hA : IsJ w ok' (jv a.kind a.bool a.int (strOf a.text) (.slice A1 a.names.length c1) (.slice A2 a.list.length c2)) a)
    (hN : Lies w N 27 [.int .i64 a.kind, .bool a.bool, .int .i64 a.int, .string (strOf a.text), .slice A1 a.names.length c1, .slice A2 a.list.length c2]) :
    Calls Tryd.prog 54 #[.slice A n c, .func (.func 46) #[] #[.pointer (some ⟨N, 0, none⟩)]] w (AnyEnd (S.1 a) l w) := by
  have hns : n * 88 ≤ 140737488355328 := by
    obtain ⟨_, _, _, h, _⟩ := hL
    rw [← hl]; exact h
  have HL := Lib.hid hL
  have HN := Lib.hid hl
  have HA := Lib.hid hA
  have HO := Lib.hid hN
  clear hL hl hA hN
  go_enter Tryd.func54, Tryd.ntmps54
  go_wp2_with fail
  go_loopw [8] (fun i wr => ∃ k : Nat, i = .int .i64 k ∧ k ≤ n ∧ Hid (NoneYet (S.1 a) l k) ∧ Below w.heap.size w wr) (fun i _ => n - (intOf i).toNat)
  case atStart => exact ⟨0, rfl, Nat.zero_le _, Lib.hid (by unfold NoneYet; rfl), Below.refl _ _⟩
  case round =>
    obtain ⟨k, rfl, hk, HNO, hb⟩ := hrel
    by_cases hlt : k < n
    · obtain ⟨b, off, x, B1, d1, B2, d2, rfl, _, _, hx, hJ, s0, s1, s2, s3, s4, s5⟩ := (HL.out.on hb).elem (i := k) (by rw [HN.out]; exact hlt)
      have hC := ofTwo1_any S a x A1 A2 B1 B2 c1 c2 d1 d2 N wr hJ (HA.out.on hb) (HO.out.below hb HO.out.lt)
      have HX := Lib.hid hx
      have HB := Lib.hid hb
      clear hx hb hJ
      cases he : S.1 a x with
      | false =>
        rw [he] at hC
        have HNE := Lib.hid (HNO.out.succ HX.out he)
        clear he
        go_wp2_with fail
        refine hC.mono ?_
        rintro e w2 ⟨hb2, rfl⟩
        have HQ : Hid (∃ k' : Nat, Value.int .i64 ((k + 1 : Nat) : Int) = .int .i64 k' ∧ k' ≤ n ∧ Hid (NoneYet (S.1 a) l k') ∧ Below w.heap.size w w2) := ⟨k + 1, rfl, hlt, HNE, below_more HB.out hb2⟩
        clear hC hb2 s0 s1 s2 s3 s4 s5
        go_wp2
        go_roundw
        case rel => exact HQ.out
        case measure => simp [intOf]; omega
      | true =>
        rw [he] at hC
        have HE : Hid (l.any (S.1 a) = true) := List.any_eq_true.2 ⟨x, List.mem_of_getElem? HX.out, he⟩
        clear he
        go_wp2_with fail
        refine hC.mono ?_
        rintro e w2 ⟨hb2, rfl⟩
        have HQ : Hid (AnyEnd (S.1 a) l w (.returned (.int .i64 (k : Int))) w2) := ⟨below_more HB.out hb2, .inl ⟨k, rfl, HE.out⟩⟩
        clear hC hb2 s0 s1 s2 s3 s4 s5
        go_wp2
        go_ret
        exact HQ.out
    · obtain rfl : k = n := by omega
      have hd2 : decide ((k : Int) < (k : Int)) = false := by simp
      have HQ : Hid (AnyEnd (S.1 a) l w (.returned (.int .i64 (-1))) wr) := ⟨hb, .inr ⟨rfl, by have := HNO.out; unfold NoneYet at this; rwa [← HN.out, List.take_length] at this⟩⟩
      clear hb
      go_wp2
      go_ret
      exact HQ.out
set_option maxHeartbeats 1000000 in
set_option maxRecDepth 100000 in
theorem containsS_any (S : Mq.Same) {ok ok' : Nat → Prop} (a : Jq.J) (A1 A2 : Option Addr) (c1 c2 N : Nat) (l : List Jq.J) (A : Option Addr) (n c : Nat) (w : World) (hL : ListIs w ok (.slice A n c) l) (hl : l.length = n) (hA : IsJ w ok' (jv a.kind a.bool a.int (strOf a.text) (.slice A1 a.names.length c1) (.slice A2 a.list.length c2)) a)
    (hN : Lies w N 27 [.int .i64 a.kind, .bool a.bool, .int .i64 a.int, .string (strOf a.text), .slice A1 a.names.length c1, .slice A2 a.list.length c2]) :
    Calls Tryd.prog 45 #[.slice A n c, .func (.func 46) #[] #[.pointer (some ⟨N, 0, none⟩)]] w fun e w' => Below w.heap.size w w' ∧ e = .returned (.bool (l.any (S.1 a))) := by
  have hC := indexS_any S a A1 A2 c1 c2 N l A n c w hL hl hA hN
  obtain ⟨K, eK⟩ : ∃ K, l.any (S.1 a) = K := ⟨_, rfl⟩
  unfold AnyEnd at hC
  rw [eK] at hC ⊢
  clear hL hl hA hN eK
  go_enter Tryd.func45, Tryd.ntmps45
  go_wp2_with fail
  refine hC.mono ?_
  rintro e w2 ⟨hb, ⟨k, rfl, rfl⟩ | ⟨rfl, rfl⟩⟩
  · have hd0 : decide ((0 : Int) ≤ (k : Int)) = true := decide_eq_true (by omega)
    have HB := Lib.hid hb
    clear hC hb
    go_wp2
    go_ret
    exact ⟨HB.out, rfl⟩
  · have HB := Lib.hid hb
    clear hC hb
    go_wp2
    go_ret
    exact ⟨HB.out, rfl⟩
end Go.Proofs.YtnbaajdcakjlmaaDoor
