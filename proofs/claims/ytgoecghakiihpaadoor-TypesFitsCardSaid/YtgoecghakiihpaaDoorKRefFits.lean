/-
  Whether a value is of a type: the document's Fits.
-/
import Derived.Test.YtgoecghakiihpaaDoorKFits
namespace Go.Proofs.YtgoecghakiihpaaDoor
open Go.RowKit

set_option maxHeartbeats 2000000 in
set_option maxRecDepth 100000 in
theorem refFits_any {ok : Nat → Prop} (x : Jq.J) (t : Int) (A1 A2 : Option Addr) (c1 c2 : Nat) (w : World) (hL : ListIs w ok (.slice A2 x.list.length c2) x.list) :
    Calls Tryd.prog 14 #[jv x.kind x.bool x.int (strOf x.text) (.slice A1 x.names.length c1) (.slice A2 x.list.length c2), .int .i64 t] w fun e w' => Below w.heap.size w w' ∧ e = .returned (.bool (decide (Tq.fitsP x t))) := by
  obtain ⟨P, eP⟩ : ∃ P, decide (Tq.fitsP x t) = P := ⟨_, rfl⟩
  rw [eP]
  obtain ⟨W2, eW2⟩ : ∃ W2, W2 = w.alloc (jbox x A1 c1 A2 c2) := ⟨_, rfl⟩
  have hb2 : Below w.heap.size w W2 := by rw [eW2]; exact below_new _ _
  obtain ⟨z0, z1, z2, z3, z4, z5⟩ := IsJ.sixK eW2
  have HB2 := Lib.hid hb2
  have HW2 := Lib.hid eW2
  have HZ := Lib.hid (IsJ.sixK eW2)
  have HL := Lib.hid (hL.onK hb2)
  have hns : x.list.length * 88 ≤ 140737488355328 := by
    obtain ⟨_, _, _, h, _⟩ := hL
    exact h
  rw [eW2] at z0 z1 z2 z3 z4 z5
  clear hb2 hL eW2
  rcases Decidable.em (t = 4) with h4 | h4
  · subst h4
    have HFIT : Hid (Tq.fitsP x 4 ↔ x.kind = 4 ∧ ∀ y ∈ x.list, Jq.J.kind y = 3) := by unfold Hid Tq.fitsP; simp
    have HP := Lib.hid eP
    clear eP
    go_enter Tryd.func14, Tryd.ntmps14
    go_wp2_with fail
    rw [← HW2.out]
    clear z0 z1 z2 z3 z4 z5
    obtain ⟨z0, z1, z2, z3, z4, z5⟩ := HZ.out
    go_loop [5] (fun i => ∃ k : Nat, i = .int .i64 k ∧ k ≤ x.list.length ∧ Hid (AllText x.list k)) (fun i => x.list.length - (intOf i).toNat)
    case atStart => exact ⟨0, rfl, Nat.zero_le _, Lib.hid (AllText.zero _)⟩
    case round =>
      obtain ⟨k, rfl, hk, HNO⟩ := hrel
      by_cases hlt : k < x.list.length
      · obtain ⟨b, off, y, B1, d1, B2, d2, rfl, _, _, hx, _, s0, s1, s2, s3, s4, s5⟩ := HL.out.elem (i := k) hlt
        by_cases he : y.kind = 3
        · have g1 : (y.kind != 3) = false := by simp [he]
          have g2 : (y.kind == 3) = true := by simp [he]
          have HQ : Hid (AllText x.list (k + 1)) := HNO.out.succ hx he
          clear he hx
          go_wp2
          go_round
          case rel => exact ⟨k + 1, by go_num, by omega, Lib.hid HQ.out⟩
          case measure => simp [intOf]; omega
        · have g1 : (y.kind != 3) = true := by simp [he]
          have g2 : (y.kind == 3) = false := by simp [he]
          have HQ : Hid (false = P) := by unfold Hid; rw [← HP.out]; exact (decide_eq_false (fun h => he ((HFIT.out.1 h).2 y (List.mem_of_getElem? hx)))).symm
          clear he hx
          go_wp2
          go_ret
          exact ⟨HB2.out, congrArg (fun b => Ending.returned (.bool b)) HQ.out⟩
      · obtain rfl : k = x.list.length := by omega
        have hd2 : decide ((x.list.length : Int) < (x.list.length : Int)) = false := by simp
        have HQ : Hid ((x.kind == 4) = P) := by
          have := HNO.out.all rfl
          unfold Hid
          rw [← HP.out, beq_dec]
          congr 1
          exact propext ⟨fun h => HFIT.out.2 ⟨h, this⟩, fun h => (HFIT.out.1 h).1⟩
        go_wp2
        go_ret
        exact ⟨HB2.out, congrArg (fun b => Ending.returned (.bool b)) HQ.out⟩
  have HP : Hid (decide ((t = 1 ∧ x.kind = 3) ∨ (t = 2 ∧ x.kind = 2) ∨ (t = 3 ∧ x.kind = 1)) = P) := by unfold Hid; rw [← eP]; congr 1; unfold Tq.fitsP; simp [h4]
  obtain ⟨p4a, p4b⟩ : (t == 4) = false ∧ decide (t = 4) = false := ⟨beq_false_of_ne h4, decide_eq_false h4⟩
  clear eP h4 HL HZ hns
  rcases Decidable.em (t = 1) with h1 | h1
  · subst h1
    rcases Decidable.em (x.kind = 3) with k0 | k0
    · have g1 : (x.kind == 3) = true := by simp [k0]
      have HQ : Hid (true = P) := by unfold Hid; rw [← HP.out]; simp [k0]
      clear HP k0
      go_enter Tryd.func14, Tryd.ntmps14
      go_wp2
      go_ret
      rw [← HW2.out]
      exact ⟨HB2.out, congrArg (fun b => Ending.returned (.bool b)) HQ.out⟩
    · have g1 : (x.kind == 3) = false := beq_false_of_ne k0
      have HQ : Hid (false = P) := by unfold Hid; rw [← HP.out]; simp [k0]
      clear HP k0
      go_enter Tryd.func14, Tryd.ntmps14
      go_wp2
      go_ret
      rw [← HW2.out]
      exact ⟨HB2.out, congrArg (fun b => Ending.returned (.bool b)) HQ.out⟩
  obtain ⟨p1a, p1b⟩ : (t == 1) = false ∧ decide (t = 1) = false := ⟨beq_false_of_ne h1, decide_eq_false h1⟩
  rcases Decidable.em (t = 2) with h2 | h2
  · subst h2
    rcases Decidable.em (x.kind = 2) with k0 | k0
    · have g1 : (x.kind == 2) = true := by simp [k0]
      have HQ : Hid (true = P) := by unfold Hid; rw [← HP.out]; simp [k0]
      clear HP k0
      go_enter Tryd.func14, Tryd.ntmps14
      go_wp2
      go_ret
      rw [← HW2.out]
      exact ⟨HB2.out, congrArg (fun b => Ending.returned (.bool b)) HQ.out⟩
    · have g1 : (x.kind == 2) = false := beq_false_of_ne k0
      have HQ : Hid (false = P) := by unfold Hid; rw [← HP.out]; simp [k0]
      clear HP k0
      go_enter Tryd.func14, Tryd.ntmps14
      go_wp2
      go_ret
      rw [← HW2.out]
      exact ⟨HB2.out, congrArg (fun b => Ending.returned (.bool b)) HQ.out⟩
  obtain ⟨p2a, p2b⟩ : (t == 2) = false ∧ decide (t = 2) = false := ⟨beq_false_of_ne h2, decide_eq_false h2⟩
  rcases Decidable.em (t = 3) with h3 | h3
  · subst h3
    rcases Decidable.em (x.kind = 1) with k0 | k0
    · have g1 : (x.kind == 1) = true := by simp [k0]
      have HQ : Hid (true = P) := by unfold Hid; rw [← HP.out]; simp [k0]
      clear HP k0
      go_enter Tryd.func14, Tryd.ntmps14
      go_wp2
      go_ret
      rw [← HW2.out]
      exact ⟨HB2.out, congrArg (fun b => Ending.returned (.bool b)) HQ.out⟩
    · have g1 : (x.kind == 1) = false := beq_false_of_ne k0
      have HQ : Hid (false = P) := by unfold Hid; rw [← HP.out]; simp [k0]
      clear HP k0
      go_enter Tryd.func14, Tryd.ntmps14
      go_wp2
      go_ret
      rw [← HW2.out]
      exact ⟨HB2.out, congrArg (fun b => Ending.returned (.bool b)) HQ.out⟩
  obtain ⟨p3a, p3b⟩ : (t == 3) = false ∧ decide (t = 3) = false := ⟨beq_false_of_ne h3, decide_eq_false h3⟩
  have HQ : Hid (false = P) := by unfold Hid; rw [← HP.out]; exact (decide_eq_false (by simp [h1, h2, h3])).symm
  clear HP h1 h2 h3
  go_enter Tryd.func14, Tryd.ntmps14
  go_wp2
  go_ret
  rw [← HW2.out]
  exact ⟨HB2.out, congrArg (fun b => Ending.returned (.bool b)) HQ.out⟩
end Go.Proofs.YtgoecghakiihpaaDoor
