/-
  The law RulesPrints: few.
-/
import Derived.Test.YthhlmalpelgpeaaGreatDoorZZPr
import Derived.Test.YthhlmalpelgpeaaGreatDoorZZLa
import Derived.Test.YthhlmalpelgpeaaGreatDoorKRowB
namespace Go.Proofs.YthhlmalpelgpeaaGreatDoor
open Go.RowKit

def SomeBool (w : World) (e : Ending) (w' : World) : Prop := Below w.heap.size w w' ∧ ∃ b, e = .returned (.bool b)
set_option maxHeartbeats 1000000 in
set_option maxRecDepth 100000 in
theorem few_any {ok : Nat → Prop} {w : World} {v : Value} {rs : List Zq.Rl} (hR : RsE w ok v rs) :
    Calls Tryz.prog 8 #[v] w (SomeBool w) := by
  obtain ⟨A0, c0, rfl⟩ := hR.form
  obtain ⟨n, en⟩ : ∃ n, rs.length = n := ⟨_, rfl⟩
  have hn63 : n ≤ 9223372036854775807 := by
    obtain ⟨_, _, e, h1, h2, _⟩ := hR
    injection e with _ e2 e3
    omega
  rw [en]
  rw [en] at hR
  have HN := Lib.hid en
  have HR := Lib.hid hR
  clear hR en
  by_cases h100 : 100 < n
  · have g1 : decide ((100 : Int) < (n : Int)) = true := decide_eq_true (by omega)
    clear HR HN
    go_enter Tryz.func8, Tryz.ntmps8
    go_wp2
    go_ret
    exact ⟨Below.refl _ _, _, rfl⟩
  · have g1 : decide ((100 : Int) < (n : Int)) = false := decide_eq_false (by omega)
    go_enter Tryz.func8, Tryz.ntmps8
    go_wp2_with fail
    go_loopw [10] (fun i wr => ∃ k : Nat, i = .int .i64 k ∧ k ≤ n ∧ Below w.heap.size w wr) (fun i _ => n - (intOf i).toNat)
    case atStart => exact ⟨0, rfl, Nat.zero_le _, Below.refl _ _⟩
    case round =>
      obtain ⟨k, rfl, hk, hb⟩ := hrel
      by_cases hlt : k < n
      · obtain ⟨b, off, nm, ex, cd, A3, c3, A4, c4, rfl, hr, _, hex, hcd, hcell⟩ := (HR.out.more hb).three (i := k) (by rw [HN.out]; exact hlt)
        obtain ⟨s0, s1, s2⟩ := hcell wr (Below.refl _ _)
        obtain ⟨ne, ene⟩ : ∃ m, ex.length = m := ⟨_, rfl⟩
        obtain ⟨nc, enc⟩ : ∃ m, cd.length = m := ⟨_, rfl⟩
        have hne63 : ne ≤ 9223372036854775807 := by
          obtain ⟨_, _, e, h1, h2, _⟩ := hex
          omega
        have hnc63 : nc ≤ 9223372036854775807 := by
          obtain ⟨_, _, e, h1, h2, _⟩ := hcd
          omega
        rw [ene] at s1
        rw [enc] at s2
        obtain ⟨W1, eW1⟩ : ∃ W1, W1 = wr.alloc (.cells #[.string (strOf nm), .slice A3 ne c3, .slice A4 nc c4] 35) := ⟨_, rfl⟩
        have hb1 : Below wr.heap.size wr W1 := by rw [eW1]; exact box_below _ _
        have hl1 : Lies W1 wr.heap.size 35 [.string (strOf nm), .slice A3 ne c3, .slice A4 nc c4] := by rw [eW1]; exact Lies.new_ rfl
        obtain ⟨⟨y0, y1, y2⟩, _⟩ := hl1.cells3
        have HB := Lib.hid (below_onZ hb hb1)
        have HWE := Lib.hid eW1
        rw [eW1] at y0 y1 y2
        clear hr hex hcd hcell ene enc hb hb1 hl1 eW1
        by_cases h1 : 200 < ne
        · have d1 : decide ((200 : Int) < (ne : Int)) = true := decide_eq_true (by omega)
          go_wp2
          go_ret
          exact ⟨by rw [← HWE.out]; exact HB.out, _, rfl⟩
        · have d1 : decide ((200 : Int) < (ne : Int)) = false := decide_eq_false (by omega)
          by_cases h2 : 200 < nc
          · have d2 : decide ((200 : Int) < (nc : Int)) = true := decide_eq_true (by omega)
            go_wp2
            go_ret
            exact ⟨by rw [← HWE.out]; exact HB.out, _, rfl⟩
          · have d2 : decide ((200 : Int) < (nc : Int)) = false := decide_eq_false (by omega)
            go_wp2
            go_roundw
            case rel => exact ⟨k + 1, by go_num, by omega, by rw [← HWE.out]; exact HB.out⟩
            case measure => simp [intOf]; omega
      · obtain rfl : k = n := by omega
        have hd : decide ((k : Int) < (k : Int)) = false := by simp
        have HB := Lib.hid hb
        clear hb
        go_wp2
        go_ret
        exact ⟨HB.out, _, rfl⟩
theorem RulesIn.toW {W : World} {T : Nat} {v : Value} {rs : List Zq.Rl} (h : RulesIn W T v rs) (hT : T ≤ 35184372088832) : RsW W (fun _ => True) v rs := by
  obtain ⟨⟨A, c, e, h1, h2, us, h4, h5, h6⟩, hn, hr⟩ := h
  refine ⟨A, c, e, h1, h2, by omega, us, h4, fun i u r e1 e2 => ?_, h6⟩
  obtain ⟨k1, k2, k3, k4⟩ := h5 i u r e1 e2
  obtain ⟨g1, ⟨g2, g3⟩, g4, g5⟩ := hr r (List.mem_of_getElem? e2)
  have hw : ∀ n, NodeB T n → NdW n := fun n ⟨a1, a2, a3, a4, a5⟩ => ⟨a1, a2, a3, Nat.le_trans a4 hT, a5⟩
  have hns : ∀ (v : Value) (ns : List Zq.Nd), ns.length ≤ 140737488355328 → (∀ n ∈ ns, NdW n) → NsE W (fun _ => True) v ns → NsW W (fun _ => True) v ns := fun v ns hl hg ⟨A', c', e, f1, f2, _, f3⟩ => ⟨A', c', e, f1, f2, hl, hg, f3⟩
  exact ⟨k1, k2, Nat.le_trans g1 hT, hns _ _ (by omega) (fun n hn => hw n (g4 n hn)) k3, hns _ _ (by omega) (fun n hn => hw n (g5 n hn)) k4⟩
theorem RulesIn.nums {W : World} {T : Nat} {v : Value} {rs : List Zq.Rl} (h : RulesIn W T v rs) : ∀ r ∈ rs, NumOk r.expr ∧ NumOk r.cond := fun r hr => by
  obtain ⟨_, _, g4, g5⟩ := h.2.2 r hr
  exact ⟨fun n hn => (g4 n hn).1, fun n hn => (g5 n hn).1⟩
set_option maxHeartbeats 1000000 in
set_option maxRecDepth 100000 in
theorem lawPrints11_any (l : List Zq.Rl) (v : Value) (w : World) (hH : HeldZ w) (hL : RulesIn w 1048576 v l) :
    Calls Tryz.prog 3 #[v] w (True11 w) := by
  have hF := few_any hL.1
  have HL := Lib.hid (hL.toW (by decide))
  have HE0 := Lib.hid hL.1
  have HNU := Lib.hid hL.nums
  have HH := Lib.hid hH
  obtain ⟨P, eP⟩ : ∃ P, Zq.print l = P := ⟨_, rfl⟩
  have HP := Lib.hid eP
  clear hL hH eP
  go_enter Tryz.func3, Tryz.ntmps3
  go_wp2_with fail
  refine hF.mono ?_
  rintro e w1 ⟨hb1, b, rfl⟩
  have HB1 := Lib.hid hb1
  have hA := alive11_any w1 (HH.out.below hb1)
  clear hF hb1
  cases b with
  | false =>
    go_wp2_with fail
    refine hA.mono ?_
    rintro e w2 ⟨rfl, hb2⟩
    have HE : Hid (True11 w (.returned (.bool true)) w2) := ⟨rfl, below_onZ HB1.out hb2⟩
    clear hA hb2
    go_wp2
    go_ret
    exact HE.out
  | true =>
    go_wp2_with fail
    refine hA.mono ?_
    rintro e w2 ⟨rfl, hb2⟩
    have HB2 := Lib.hid (below_onZ HB1.out hb2)
    have hC := printR_any (HH.out.below HB2.out) (HL.out.more HB2.out)
    rw [HP.out] at hC
    clear hA hb2
    go_wp2_with fail
    refine hC.mono ?_
    rintro e w3 ⟨rfl, hb3, _⟩
    have HB3 := Lib.hid (below_onZ HB2.out hb3)
    have hC := refPrint_any (HE0.out.more HB3.out) HNU.out
    rw [HP.out] at hC
    clear hb3
    go_wp2_with fail
    refine hC.mono ?_
    rintro e w4 ⟨hb4, rfl⟩
    have HE : Hid (True11 w (.returned (.bool true)) w4) := ⟨rfl, below_onZ HB3.out hb4⟩
    clear hC hb4
    go_wp2
    go_ret
    exact HE.out
end Go.Proofs.YthhlmalpelgpeaaGreatDoor
