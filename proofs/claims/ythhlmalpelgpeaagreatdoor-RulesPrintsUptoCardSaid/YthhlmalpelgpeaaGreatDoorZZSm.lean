/-
  The document's Same.
-/
import Derived.Test.YthhlmalpelgpeaaGreatDoorG15
import Derived.BigQuiet
import Derived.Lib.QuietBelow
namespace Go.Proofs.YthhlmalpelgpeaaGreatDoor
open Go.RowKit Go.Sort

set_option maxHeartbeats 2000000 in
set_option maxRecDepth 100000 in
theorem refSameNodes_any {ok ok' : Nat → Prop} (l m : List Zq.Nd) (lv mv : Value) (w : World) (hL : NsE w ok lv l) (hM : NsE w ok' mv m) :
    Calls Tryz.prog 25 #[lv, mv] w (TellsZ (l = m) w) := by
  obtain ⟨A0, c0, rfl⟩ := hL.form
  obtain ⟨A9, c9, rfl⟩ := hM.form
  by_cases hlen : l.length = m.length
  · obtain ⟨N, eN⟩ : ∃ N, l.length = N := ⟨_, rfl⟩
    have eN2 : m.length = N := by rw [← hlen, eN]
    have hNs : N ≤ 9223372036854775807 := by
      obtain ⟨_, _, _, h1, h2, _⟩ := hL
      omega
    have HL := Lib.hid hL
    have HM := Lib.hid hM
    have HN := Lib.hid eN
    have HN2 := Lib.hid eN2
    have hd0 : ((N : Int) != (N : Int)) = false := by simp
    rw [eN, eN2]
    rw [eN] at HL
    rw [eN2] at HM
    clear eN eN2 hL hM hlen
    go_enter Tryz.func25, Tryz.ntmps25
    go_wp2_with fail
    go_loopw [5] (fun i wr => ∃ k : Nat, i = .int .i64 k ∧ k ≤ N ∧ Hid (l.take k = m.take k) ∧ Below w.heap.size w wr) (fun i _ => N - (intOf i).toNat)
    case atStart => exact ⟨0, rfl, Nat.zero_le _, Lib.hid rfl, Below.refl _ _⟩
    case round =>
      obtain ⟨k, rfl, hk, he, hb⟩ := hrel
      by_cases hlt : k < N
      · obtain ⟨b, off, x, rfl, _, hbw, hx, hxt, s0, s1, s2, s3, s4⟩ := (HL.out.more hb).elem (i := k) (by rw [HN.out]; exact hlt)
        obtain ⟨b', off', y, rfl, _, hbw', hy, hyt, t0, t1, t2, t3, t4⟩ := (HM.out.more hb).elem (i := k) (by rw [HN2.out]; exact hlt)
        have HX := Lib.hid hx
        have HY := Lib.hid hy
        have hneq := neq_nodes hxt hyt
        have hgd := guard_node
        clear hx hy hxt hyt
        by_cases hpq : x = y
        · rw [decide_eq_true hpq] at hneq
          have HE := Lib.hid (take_sameZ he.out HX.out HY.out hpq)
          clear hpq he
          go_upto_region 6 with (fail)
          go_quiet (fail)
          go_wp2
          go_roundw
          case rel => exact ⟨k + 1, by go_num, by omega, HE, below_drewZ hb nq⟩
          case measure => simp [intOf]; omega
        · rw [decide_eq_false hpq] at hneq
          have HE : Hid (l ≠ m) := fun h => by
            have h1 := HX.out
            rw [h] at h1
            exact hpq (Option.some.inj (h1.symm.trans HY.out))
          clear hpq he
          go_upto_region 6 with (fail)
          go_quiet (fail)
          go_wp2
          go_ret
          exact TellsZ.no HE.out (below_drewZ hb nq)
      · obtain rfl : k = N := by omega
        have hd2 : decide ((k : Int) < (k : Int)) = false := by simp
        have HQ : Hid (TellsZ (l = m) w (.returned (.bool true)) wr) := TellsZ.yes (by
          have := he.out
          rwa [List.take_of_length_le (by rw [HN.out]; exact Nat.le_refl _), List.take_of_length_le (by rw [HN2.out]; exact Nat.le_refl _)] at this) hb
        clear he hb
        go_wp2
        go_ret
        exact HQ.out
  · have hd0 : ((l.length : Int) != (m.length : Int)) = true := by rw [bne_iff_ne]; omega
    have HQ : Hid (TellsZ (l = m) w (.returned (.bool false)) w) := TellsZ.no (fun h => hlen (by rw [h])) (Below.refl _ _)
    clear hlen hL hM
    go_enter Tryz.func25, Tryz.ntmps25
    go_wp2
    go_ret
    exact HQ.out

theorem TellsZ.dec {P : Prop} [Decidable P] {w w' : World} {e : Ending} (h : TellsZ P w e w') : e = .returned (.bool (decide P)) ∧ Below w.heap.size w w' := by
  obtain ⟨hb, ⟨h, rfl⟩ | ⟨h, rfl⟩⟩ := h
  · exact ⟨by rw [decide_eq_true h], hb⟩
  · exact ⟨by rw [decide_eq_false h], hb⟩
set_option maxHeartbeats 4000000 in
set_option maxRecDepth 100000 in
theorem refSame11_any {ok ok' : Nat → Prop} (l m : List Zq.Rl) (lv mv : Value) (w : World) (hL : RsE w ok lv l) (hM : RsE w ok' mv m) :
    Calls Tryz.prog 16 #[lv, mv] w (TellsZ (l = m) w) := by
  obtain ⟨A0, c0, rfl⟩ := hL.form
  obtain ⟨A9, c9, rfl⟩ := hM.form
  by_cases hlen : l.length = m.length
  · obtain ⟨N, eN⟩ : ∃ N, l.length = N := ⟨_, rfl⟩
    have eN2 : m.length = N := by rw [← hlen, eN]
    have hNs : N ≤ 9223372036854775807 := by
      obtain ⟨_, _, _, h1, h2, _⟩ := hL
      omega
    have HL := Lib.hid hL
    have HM := Lib.hid hM
    have HN := Lib.hid eN
    have HN2 := Lib.hid eN2
    have hd0 : ((N : Int) != (N : Int)) = false := by simp
    rw [eN, eN2]
    rw [eN] at HL
    rw [eN2] at HM
    clear eN eN2 hL hM hlen
    go_enter Tryz.func16, Tryz.ntmps16
    go_wp2_with fail
    go_loopw [5] (fun i wr => ∃ k : Nat, i = .int .i64 k ∧ k ≤ N ∧ Hid (l.take k = m.take k) ∧ Below w.heap.size w wr) (fun i _ => N - (intOf i).toNat)
    case atStart => exact ⟨0, rfl, Nat.zero_le _, Lib.hid rfl, Below.refl _ _⟩
    case round =>
      obtain ⟨k, rfl, hk, he, hb⟩ := hrel
      by_cases hlt : k < N
      · obtain ⟨b, off, x, B1, e1, B2, e2, rfl, _, hblt, hx, hJ, s0, s1, s2⟩ := (HL.out.more hb).elem (i := k) (by rw [HN.out]; exact hlt)
        obtain ⟨b', off', y, B3, e3, B4, e4, rfl, _, hblt', hy, hK, t0, t1, t2⟩ := (HM.out.more hb).elem (i := k) (by rw [HN2.out]; exact hlt)
        have HX := Lib.hid hx
        have HY := Lib.hid hy
        have HB := Lib.hid hb
        have hstr := str_beq hJ.2.1 hK.2.1
        have cE : ∀ d os, Calls Tryz.prog 25 #[.slice B1 x.expr.length e1, .slice B3 y.expr.length e3] (grow (redrawn wr d) os) fun e w2 => e = .returned (.bool (decide (x.expr = y.expr))) ∧ ∃ r : Regrown, w2 = grow (redrawn wr r.d) r.os := fun d os => Calls.regrown_of ((refSameNodes_any x.expr y.expr _ _ _ (hJ.2.2.1.more (below_regrown wr d os)) (hK.2.2.1.more (below_regrown wr d os))).mono fun e w' h => h.dec)
        have cW : ∀ d os, Calls Tryz.prog 25 #[.slice B2 x.cond.length e2, .slice B4 y.cond.length e4] (grow (redrawn wr d) os) fun e w2 => e = .returned (.bool (decide (x.cond = y.cond))) ∧ ∃ r : Regrown, w2 = grow (redrawn wr r.d) r.os := fun d os => Calls.regrown_of ((refSameNodes_any x.cond y.cond _ _ _ (hJ.2.2.2.more (below_regrown wr d os)) (hK.2.2.2.more (below_regrown wr d os))).mono fun e w' h => h.dec)
        have k0 := cell_regrown s0
        have k1 := cell_regrown s1
        have k2 := cell_regrown s2
        have j0 := cell_regrown t0
        have j1 := cell_regrown t1
        have j2 := cell_regrown t2
        have HEQ : Hid (x = y ↔ (x.name = y.name ∧ x.expr = y.expr ∧ x.cond = y.cond)) := ⟨fun h => by subst h; exact ⟨rfl, rfl, rfl⟩, fun h => rl_ext h.1 h.2.1 h.2.2⟩
        have HYES : Hid (x = y → ∀ w2, Below wr.heap.size wr w2 → ∃ k' : Nat, Value.int .i64 ((k + 1 : Nat) : Int) = .int .i64 k' ∧ k' ≤ N ∧ Hid (l.take k' = m.take k') ∧ Below w.heap.size w w2) := fun h w2 h2 => ⟨k + 1, rfl, hlt, Lib.hid (take_sameZ he.out HX.out HY.out h), below_onZ HB.out h2⟩
        have HNO : Hid (¬ x = y → ∀ w2, Below wr.heap.size wr w2 → TellsZ (l = m) w (.returned (.bool false)) w2) := fun hq w2 h2 => TellsZ.no (fun h => hq (by
            have h1 := HX.out
            rw [h] at h1
            exact Option.some.inj (h1.symm.trans HY.out))) (below_onZ HB.out h2)
        clear hx hy hb he hJ hK s0 s1 s2 t0 t1 t2 hblt hblt'
        obtain ⟨b1, eb1⟩ : ∃ b, decide (x.expr = y.expr) = b := ⟨_, rfl⟩
        obtain ⟨b2, eb2⟩ : ∃ b, decide (x.cond = y.cond) = b := ⟨_, rfl⟩
        rw [eb1] at cE
        rw [eb2] at cW
        by_cases h0 : x.name = y.name
        · have hd : ((strOf x.name).toList == (strOf y.name).toList) = true := by rw [hstr]; exact decide_eq_true h0
          cases b1 with
          | true =>
            cases b2 with
            | true =>
              have HE : Hid (x = y) := HEQ.out.2 ⟨h0, of_decide_eq_true eb1, of_decide_eq_true eb2⟩
              clear h0 hstr eb1 eb2 HEQ HNO
              go_upto_region 6 with (fail)
              refine wp_region_quiet_below (by kernel_rfl) (by kernel_rfl) ?_
              repeat (go_big_quiet_step (first | with_reducible exact cE _ _ | with_reducible exact cW _ _))
              refine wpQuiet_nil ?_
              intro w' hw'
              obtain ⟨⟨dq, osq⟩, hw''⟩ := hw'
              subst hw''
              have HQ := Lib.hid (HYES.out HE.out _ (below_regrown wr dq osq))
              generalize hWq : grow (redrawn wr dq) osq = W6 at HQ ⊢
              clear cE cW k0 k1 k2 j0 j1 j2 hWq
              go_wp2
              go_roundw
              case rel => exact HQ.out
              case measure => simp [intOf]; omega
            | false =>
              have HE : Hid (¬ x = y) := fun h => of_decide_eq_false eb2 (HEQ.out.1 h).2.2
              clear h0 hstr eb1 eb2 HEQ HYES
              go_upto_region 6 with (fail)
              refine wp_region_quiet_below (by kernel_rfl) (by kernel_rfl) ?_
              repeat (go_big_quiet_step (first | with_reducible exact cE _ _ | with_reducible exact cW _ _))
              refine wpQuiet_nil ?_
              intro w' hw'
              obtain ⟨⟨dq, osq⟩, hw''⟩ := hw'
              subst hw''
              have HQ := Lib.hid (HNO.out HE.out _ (below_regrown wr dq osq))
              generalize hWq : grow (redrawn wr dq) osq = W6 at HQ ⊢
              clear cE cW k0 k1 k2 j0 j1 j2 hWq
              go_wp2
              go_ret
              exact HQ.out
          | false =>
            have HE : Hid (¬ x = y) := fun h => of_decide_eq_false eb1 (HEQ.out.1 h).2.1
            clear h0 hstr eb1 eb2 HEQ HYES
            go_upto_region 6 with (fail)
            refine wp_region_quiet_below (by kernel_rfl) (by kernel_rfl) ?_
            repeat (go_big_quiet_step (first | with_reducible exact cE _ _ | with_reducible exact cW _ _))
            refine wpQuiet_nil ?_
            intro w' hw'
            obtain ⟨⟨dq, osq⟩, hw''⟩ := hw'
            subst hw''
            have HQ := Lib.hid (HNO.out HE.out _ (below_regrown wr dq osq))
            generalize hWq : grow (redrawn wr dq) osq = W6 at HQ ⊢
            clear cE cW k0 k1 k2 j0 j1 j2 hWq
            go_wp2
            go_ret
            exact HQ.out
        · have hd : ((strOf x.name).toList == (strOf y.name).toList) = false := by rw [hstr]; exact decide_eq_false h0
          have HE : Hid (¬ x = y) := fun h => h0 (HEQ.out.1 h).1
          clear h0 hstr eb1 eb2 HEQ HYES
          go_upto_region 6 with (fail)
          refine wp_region_quiet_below (by kernel_rfl) (by kernel_rfl) ?_
          repeat (go_big_quiet_step (first | with_reducible exact cE _ _ | with_reducible exact cW _ _))
          refine wpQuiet_nil ?_
          intro w' hw'
          obtain ⟨⟨dq, osq⟩, hw''⟩ := hw'
          subst hw''
          have HQ := Lib.hid (HNO.out HE.out _ (below_regrown wr dq osq))
          generalize hWq : grow (redrawn wr dq) osq = W6 at HQ ⊢
          clear cE cW k0 k1 k2 j0 j1 j2 hWq
          go_wp2
          go_ret
          exact HQ.out
      · obtain rfl : k = N := by omega
        have hd2 : decide ((k : Int) < (k : Int)) = false := by simp
        have HQ : Hid (TellsZ (l = m) w (.returned (.bool true)) wr) := TellsZ.yes (by
          have := he.out
          rwa [List.take_of_length_le (by rw [HN.out]; exact Nat.le_refl _), List.take_of_length_le (by rw [HN2.out]; exact Nat.le_refl _)] at this) hb
        clear he hb
        go_wp2
        go_ret
        exact HQ.out
  · have hd0 : ((l.length : Int) != (m.length : Int)) = true := by rw [bne_iff_ne]; omega
    have HQ : Hid (TellsZ (l = m) w (.returned (.bool false)) w) := TellsZ.no (fun h => hlen (by rw [h])) (Below.refl _ _)
    clear hlen hL hM
    go_enter Tryz.func16, Tryz.ntmps16
    go_wp2
    go_ret
    exact HQ.out
end Go.Proofs.YthhlmalpelgpeaaGreatDoor
