/-
  The law MapsTyped.
-/
import Derived.Test.YtnbaajdcakjlmaaDoorMN
import Derived.Test.YtnbaajdcakjlmaaDoorM02
import Derived.Test.YtnbaajdcakjlmaaDoorM03
import Derived.Test.YtnbaajdcakjlmaaDoorM00
namespace Go.Proofs.YtnbaajdcakjlmaaDoor
open Go.RowKit

def FitTo (fs : List Tq.Fd) (v : Jq.J) (k : Nat) : Prop := ∀ (j : Nat) f, j < k → fs[j]? = some f → ∀ x, getP v f.name = some x → Tq.fitsP x f.type
theorem FitTo.succ {fs : List Tq.Fd} {v : Jq.J} {k : Nat} {f : Tq.Fd} (h : FitTo fs v k) (hf : fs[k]? = some f) (h1 : ∀ x, getP v f.name = some x → Tq.fitsP x f.type) : FitTo fs v (k + 1) := fun j q hj hq => by
  rcases Nat.lt_or_eq_of_le (Nat.le_of_lt_succ hj) with h' | h'
  · exact h j q h' hq
  · subst h'
    rw [hf] at hq
    injection hq with hq
    rw [← hq]; exact h1
theorem FitTo.all {fs : List Tq.Fd} {v : Jq.J} {n : Nat} (hn : fs.length = n) (h : FitTo fs v n) : Mq.FieldsFit fs v := fun f hf => by
  obtain ⟨j, hj⟩ := List.getElem?_of_mem hf
  exact h j f (by have := (List.getElem?_eq_some_iff.1 hj).1; omega) hj
theorem typed_end (S : Mq.Same) {fs : List Tq.Fd} {ns : List Zq.Nd} {v : Jq.J} {t e : Int} (hF : Mq.FieldsFit fs v) (h : Tq.of fs ns = (t, e)) (he : e = 0) : (Mq.valueV S v ns).kind = 0 ∨ Tq.fitsP (Mq.valueV S v ns) t := Mq.value_typed S hF (by rw [h, he])

set_option maxHeartbeats 8000000 in
set_option maxRecDepth 100000 in
theorem lawTyped_any {ok okf okv : Nat → Prop} (ns : List Zq.Nd) (N : Option Addr) (n nc : Nat) (fs : List Tq.Fd) (F : Option Addr) (m fc : Nat) (v : Jq.J) (V1 V2 : Option Addr) (e1 e2 : Nat) (w : World) (hH : Held w) (hN : NsE w ok (.slice N n nc) ns) (hn : ns.length = n) (hsz : n * 48 ≤ 140737488355328) (hO : NodesOk ns) (hF : FsE w okf (.slice F m fc) fs) (hm : fs.length = m)
    (hV : IsJ w okv (jv v.kind v.bool v.int (strOf v.text) (.slice V1 v.names.length e1) (.slice V2 v.list.length e2)) v) :
    Calls Tryd.prog 3 #[.slice N n nc, .slice F m fc, jv v.kind v.bool v.int (strOf v.text) (.slice V1 v.names.length e1) (.slice V2 v.list.length e2)] w (IsTrue w) := by
  obtain ⟨S, _⟩ := Mq.some_same
  obtain ⟨W0, eW0⟩ : ∃ W0, W0 = w.alloc (jbox v V1 e1 V2 e2) := ⟨_, rfl⟩
  have hb0 : Below w.heap.size w W0 := by rw [eW0]; exact below_new _ _
  have hv0 : Lies W0 w.heap.size 27 [.int .i64 v.kind, .bool v.bool, .int .i64 v.int, .string (strOf v.text), .slice V1 v.names.length e1, .slice V2 v.list.length e2] := by rw [eW0]; exact Lies.new_ rfl
  have hC := refOf_any ns fs F N m fc n nc W0 (hN.more hb0) hn hsz (hF.more hb0) hm
  obtain ⟨⟨t, ee⟩, et⟩ : ∃ p, Tq.of fs ns = p := ⟨_, rfl⟩
  rw [et] at hC
  have hml : m ≤ 9223372036854775807 := by have := hF.len; omega
  have HH : Hid (Held w) := hH
  have HN := Lib.hid hN
  have HLN := Lib.hid hn
  have HO := Lib.hid hO
  have HF := Lib.hid hF
  have HLM := Lib.hid hm
  have HV := Lib.hid hV
  have HT := Lib.hid et
  have HV0 := Lib.hid hv0
  have HB0 := Lib.hid hb0
  have HW0 := Lib.hid eW0
  rw [eW0] at hC
  clear hH hN hn hO hF hm hV et hv0 hb0 eW0
  have halive : ∀ w2, Below w.heap.size w w2 → Calls Tryd.prog 8 #[] w2 fun e w3 => e = .returned (.bool true) ∧ Below w.heap.size w w3 := fun w2 hb => (alive13_any w2 (HH.out.below hb)).mono fun e w3 h => ⟨h.1, below_more hb h.2⟩
  have HAL := Lib.hid halive
  clear halive
  go_enter Tryd.func3, Tryd.ntmps3
  go_wp2_with fail
  refine hC.mono ?_
  rintro e w1 ⟨hb1, rfl⟩
  clear hC
  rw [← HW0.out] at hb1
  have HB1 := Lib.hid (below_more HB0.out hb1)
  have HV1 := Lib.hid (HV0.out.below hb1 HV0.out.lt)
  clear hb1
  by_cases he : ee = 0
  rotate_left
  · have d1 : (ee != 0) = true := by rw [bne_iff_ne]; exact he
    have d2 : decide (ee = 0) = false := decide_eq_false he
    have d3 : (ee == 0) = false := beq_false_of_ne he
    have hA := HAL.out w1 HB1.out
    go_wp2_with fail
    refine hA.mono ?_
    rintro e w2 ⟨rfl, hb2⟩
    have HE : Hid (IsTrue w (.returned (.bool true)) w2) := ⟨rfl, hb2⟩
    clear hA hb2
    go_wp2
    go_ret
    exact HE.out
  have HE0 := Lib.hid he
  subst he
  by_cases h300 : 300 < n
  · have d2 : decide ((300 : Int) < (n : Int)) = true := decide_eq_true (by omega)
    have hA := HAL.out w1 HB1.out
    clear h300
    go_wp2_with fail
    refine hA.mono ?_
    rintro e w2 ⟨rfl, hb2⟩
    have HE : Hid (IsTrue w (.returned (.bool true)) w2) := ⟨rfl, hb2⟩
    clear hA hb2
    go_wp2
    go_ret
    exact HE.out
  have d2 : decide ((300 : Int) < (n : Int)) = false := decide_eq_false (by omega)
  go_wp2_with fail
  go_loopw [31] (fun i wr => ∃ k : Nat, i = .int .i64 k ∧ k ≤ m ∧ Hid (FitTo fs v k) ∧ Below w1.heap.size w1 wr) (fun i _ => m - (intOf i).toNat)
  case atStart => exact ⟨0, rfl, Nat.zero_le _, fun j f h => absurd h (Nat.not_lt_zero _), Below.refl _ _⟩
  case round =>
    obtain ⟨k, rfl, hk, HFT, hb⟩ := hrel
    have HB := Lib.hid hb
    have hbw := below_more HB1.out hb
    have HBW := Lib.hid hbw
    have hvr := HV1.out.below hb HV1.out.lt
    have HVR := Lib.hid hvr
    by_cases hlt : k < m
    · obtain ⟨bl, off, f, rfl, _, hflt, hx, hft, s0, s1⟩ := (HF.out.more hbw).elem (i := k) (by rw [HLM.out]; exact hlt)
      obtain ⟨WN, eWN⟩ : ∃ WN, WN = wr.alloc (.cells #[.string (strOf f.name), .int .i64 f.type] 33) := ⟨_, rfl⟩
      have hbN : Below wr.heap.size wr WN := by rw [eWN]; exact below_new _ _
      have hfd : Lies WN wr.heap.size 33 [.string (strOf f.name), .int .i64 f.type] := by rw [eWN]; exact Lies.new_ rfl
      have hC := refGet_any v _ f.name hft WN (HV.out.on (below_more hbw hbN))
      have HXK := Lib.hid hx
      have HBN := Lib.hid hbN
      have HFD := Lib.hid hfd
      have HVN := Lib.hid (hvr.below hbN hvr.lt)
      have HWN := Lib.hid eWN
      clear hx hft hbN hfd eWN hb hbw hvr hflt
      go_upto_region 7 with (fail)
      rw [← HWN.out]
      clear s0 s1
      obtain ⟨⟨z0, z1, z2, z3, z4, z5⟩, _⟩ := HVN.out.six
      obtain ⟨y0, y1⟩ : WN.cell? ⟨wr.heap.size, 0, none⟩ = some (.string (strOf f.name)) ∧ WN.cell? ⟨wr.heap.size, 1, none⟩ = some (.int .i64 f.type) := ⟨HFD.out.cell 0, HFD.out.cell 1⟩
      go_wp2_with fail
      refine hC.mono ?_
      intro e w3 hh
      clear hC z0 z1 z2 z3 z4 z5 y0 y1
      obtain ⟨hb3, hh⟩ := hh
      have HB3 := Lib.hid (below_more HBN.out hb3)
      have hfd3 := HFD.out.below hb3 HFD.out.lt
      have HFD3 := Lib.hid hfd3
      clear hb3 hfd3
      cases hg : getP v f.name with
      | none =>
        rw [hg] at hh
        subst hh
        have HQ : Hid (∀ o, ∃ k' : Nat, Value.int .i64 ((k + 1 : Nat) : Int) = .int .i64 k' ∧ k' ≤ m ∧ Hid (FitTo fs v k') ∧ Below w1.heap.size w1 (w3.alloc o)) := fun o => ⟨k + 1, rfl, hlt, HFT.out.succ HXK.out (fun x hx => by rw [hg] at hx; cases hx), below_alloc (below_more HB.out HB3.out) o⟩
        clear hg
        go_wp2
        go_roundw
        case rel => exact HQ.out _
        case measure => simp [intOf]; omega
      | some y =>
        rw [hg] at hh
        obtain ⟨u, rfl, hJ⟩ := hh
        obtain ⟨Y1, y1, Y2, y2, rfl⟩ := hJ.form
        obtain ⟨W4, eW4⟩ : ∃ W4, W4 = w3.alloc (jbox y Y1 y1 Y2 y2) := ⟨_, rfl⟩
        have hb4 : Below w3.heap.size w3 W4 := by rw [eW4]; exact below_new _ _
        obtain ⟨_, lv, ef, _, _, _, _, _, _, hLx⟩ := (hJ.on hb4).parts
        have hLy : ListIs W4 okv (.slice Y2 y.list.length y2) y.list := by
          injection ef with ef
          simp at ef
          rw [ef.2]; exact hLx
        have hFi := refFits_any y f.type Y1 Y2 y1 y2 W4 hLy
        have hx4 : Lies W4 w3.heap.size 27 [.int .i64 y.kind, .bool y.bool, .int .i64 y.int, .string (strOf y.text), .slice Y1 y.names.length y1, .slice Y2 y.list.length y2] := by rw [eW4]; exact Lies.new_ rfl
        have hf4 := HFD3.out.below hb4 HFD3.out.lt
        obtain ⟨⟨z0, z1, z2, z3, z4, z5⟩, _⟩ := hx4.six
        obtain ⟨q0, q1⟩ : W4.cell? ⟨wr.heap.size, 0, none⟩ = some (.string (strOf f.name)) ∧ W4.cell? ⟨wr.heap.size, 1, none⟩ = some (.int .i64 f.type) := ⟨hf4.cell 0, hf4.cell 1⟩
        have HB4 := Lib.hid (below_more HB3.out hb4)
        have HG := Lib.hid hg
        have HW4 := Lib.hid eW4
        clear hJ ef hLx hLy hx4 hf4 hb4 hg eW4
        go_upto_region 8 with (fail)
        rw [← HW4.out]
        by_cases hfit : Tq.fitsP y f.type
        · rw [decide_eq_true hfit] at hFi
          have HFIT := Lib.hid hfit
          clear hfit
          go_wp2_with fail
          refine hFi.mono ?_
          rintro e w5 ⟨hb5, rfl⟩
          have HQ : Hid (∃ k' : Nat, Value.int .i64 ((k + 1 : Nat) : Int) = .int .i64 k' ∧ k' ≤ m ∧ Hid (FitTo fs v k') ∧ Below w1.heap.size w1 w5) := ⟨k + 1, rfl, hlt, HFT.out.succ HXK.out (fun x hx => by rw [HG.out] at hx; injection hx with hx; rw [← hx]; exact HFIT.out), below_more (below_more HB.out HB4.out) hb5⟩
          clear hFi hb5 z0 z1 z2 z3 z4 z5 q0 q1
          go_wp2
          go_roundw
          case rel => exact HQ.out
          case measure => simp [intOf]; omega
        · rw [decide_eq_false hfit] at hFi
          clear hfit
          go_wp2_with fail
          refine hFi.mono ?_
          rintro e w5 ⟨hb5, rfl⟩
          clear hFi z0 z1 z2 z3 z4 z5 q0 q1
          have hA := HAL.out w5 (below_more HBW.out (below_more HB4.out hb5))
          clear hb5
          go_wp2_with fail
          refine hA.mono ?_
          rintro e w6 ⟨rfl, hb6⟩
          have HE : Hid (IsTrue w (.returned (.bool true)) w6) := ⟨rfl, hb6⟩
          clear hA hb6
          go_wp2
          go_ret
          exact HE.out
    · obtain rfl : k = m := by omega
      have hd : decide ((k : Int) < (k : Int)) = false := by simp
      have hC := valueM_any S ns N n nc v V1 V2 e1 e2 wr (HN.out.more hbw) HLN.out (by omega) HO.out (HV.out.on hbw)
      have HEND := Lib.hid (typed_end S (HFT.out.all HLM.out) HT.out rfl)
      obtain ⟨x, ex⟩ : ∃ x, Mq.valueV S v ns = x := ⟨_, rfl⟩
      rw [ex] at hC HEND
      obtain ⟨⟨z0, z1, z2, z3, z4, z5⟩, _⟩ := hvr.six
      clear hb hbw hvr ex
      go_wp2_with fail
      refine hC.mono ?_
      rintro e w3 ⟨u, rfl, hJ, hb3⟩
      clear hC z0 z1 z2 z3 z4 z5
      obtain ⟨Y1, y1, Y2, y2, rfl⟩ := hJ.form
      obtain ⟨W4, eW4⟩ : ∃ W4, W4 = w3.alloc (jbox x Y1 y1 Y2 y2) := ⟨_, rfl⟩
      have hb4 : Below w3.heap.size w3 W4 := by rw [eW4]; exact below_new _ _
      have hx4 : Lies W4 w3.heap.size 27 [.int .i64 x.kind, .bool x.bool, .int .i64 x.int, .string (strOf x.text), .slice Y1 x.names.length y1, .slice Y2 x.list.length y2] := by rw [eW4]; exact Lies.new_ rfl
      have HB4 := Lib.hid (below_more HBW.out (below_more hb3 hb4))
      have HX4 := Lib.hid hx4
      have HJ4 := Lib.hid (hJ.on hb4)
      have HW4 := Lib.hid eW4
      have hA := alive13_any W4 (HH.out.below HB4.out)
      clear hJ hb3 hb4 hx4 eW4
      go_upto_region 12 with (fail)
      rw [← HW4.out]
      go_wp2_with fail
      refine hA.mono ?_
      rintro e w5 ⟨rfl, hb5⟩
      clear hA
      by_cases hk0 : x.kind = 0
      · have d0 : decide (x.kind = 0) = true := decide_eq_true hk0
        have HE : Hid (IsTrue w (.returned (.bool true)) w5) := ⟨rfl, below_more HB4.out hb5⟩
        clear hb5 hk0
        go_wp2
        go_ret
        exact HE.out
      · have d0 : decide (x.kind = 0) = false := decide_eq_false hk0
        have hfit := HEND.out.resolve_left hk0
        obtain ⟨_, lv, ef, _, _, _, _, _, _, hLx⟩ := (HJ4.out.on hb5).parts
        have hFi : Calls Tryd.prog 10 #[jv x.kind x.bool x.int (strOf x.text) (.slice Y1 x.names.length y1) (.slice Y2 x.list.length y2), .int .i64 t] w5 fun e w' => Below w5.heap.size w5 w' ∧ e = .returned (.bool (decide (Tq.fitsP x t))) := by
          injection ef with ef
          simp at ef
          exact refFits_any x t Y1 Y2 y1 y2 w5 (by rw [ef.2]; exact hLx)
        rw [decide_eq_true hfit] at hFi
        obtain ⟨⟨z0, z1, z2, z3, z4, z5⟩, _⟩ := (HX4.out.below hb5 HX4.out.lt).six
        have HB5 := Lib.hid (below_more HB4.out hb5)
        clear hb5 hk0 hfit ef hLx
        go_wp2_with fail
        refine hFi.mono ?_
        rintro e w6 ⟨hb6, rfl⟩
        have HE : Hid (IsTrue w (.returned (.bool true)) w6) := ⟨rfl, below_more HB5.out hb6⟩
        clear hFi hb6 z0 z1 z2 z3 z4 z5
        go_wp2
        go_ret
        exact HE.out
end Go.Proofs.YtnbaajdcakjlmaaDoor
