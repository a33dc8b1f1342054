/-
  Whether rules make sense: the document's Check.
-/
import Derived.Test.YtgoecghakiihpaaDoorKChk
import Derived.Test.YtgoecghakiihpaaDoorKRefOf
namespace Go.Proofs.YtgoecghakiihpaaDoor
open Go.RowKit

set_option maxHeartbeats 2000000 in
set_option maxRecDepth 100000 in
theorem refCheck12_any {ok ok' : Nat → Prop} (l : List Zq.Rl) (fs : List Tq.Fd) (A A' : Option Addr) (m c n c' : Nat) (w : World) (hL : RsE w ok' (.slice A' n c') l) (hl : l.length = n) (hsz : SzRs l) (hF : FsE w ok (.slice A m c) fs) (hfs : fs.length = m) :
    Calls Tryd.prog 12 #[.slice A' n c', .slice A m c] w (ErrIs (Tq.check fs l) w) := by
  obtain ⟨P, eP⟩ : ∃ P, Tq.check fs l = P := ⟨_, rfl⟩
  have hns : n ≤ 9223372036854775807 := by
    obtain ⟨_, _, e, h1, h2, _⟩ := hL
    injection e with _ e2 e3
    omega
  have HP := Lib.hid eP
  have HL := Lib.hid hL
  have HLN := Lib.hid hl
  have HSZ := Lib.hid hsz
  have HF := Lib.hid hF
  have HFS := Lib.hid hfs
  rw [eP]
  clear hL hl hsz hF hfs eP
  go_enter Tryd.func12, Tryd.ntmps12
  go_wp2_with fail
  go_loopw [5] (fun i wr => ∃ k : Nat, i = .int .i64 k ∧ k ≤ n ∧ Hid (Tq.check fs l = Tq.check fs (l.drop k)) ∧ Below w.heap.size w wr) (fun i _ => n - (intOf i).toNat)
  case atStart => exact ⟨0, rfl, Nat.zero_le _, Lib.hid rfl, Below.refl _ _⟩
  case round =>
    obtain ⟨k, rfl, hk, HC, hb⟩ := hrel
    by_cases hlt : k < n
    · obtain ⟨b, off, x, A1, c1, A2, c2, rfl, _, hblt, hx, hJ, s0, s1, s2⟩ := (HL.out.more hb).elem (i := k) (by rw [HLN.out]; exact hlt)
      obtain ⟨N1, e1⟩ : ∃ N, x.expr.length = N := ⟨_, rfl⟩
      obtain ⟨N2, e2⟩ : ∃ N, x.cond.length = N := ⟨_, rfl⟩
      have HN1 := Lib.hid e1
      have HN2 := Lib.hid e2
      rw [e1, e2] at hJ
      rw [e1] at s1
      rw [e2] at s2
      have hRS := refReserved_any x.name hJ.2.1 wr
      have HST := Lib.hid (check_at HC.out hx)
      have HBR := Lib.hid hb
      have HJX := Lib.hid hJ.2.2.1
      have HJY := Lib.hid hJ.2.2.2
      have HSX := Lib.hid (HSZ.out x (List.mem_of_getElem? hx))
      have HBLT : Hid (b < wr.heap.size) := hblt
      have hlen : N2 = 0 ↔ x.cond = [] := by rw [← e2]; exact List.length_eq_zero_iff
      -- what follows the name's own question
      have HSTEP : Hid (Tq.ruleT fs x = 0 → ∀ w2, Below w.heap.size w w2 → ∃ k' : Nat, Value.int .i64 ((k + 1 : Nat) : Int) = .int .i64 k' ∧ k' ≤ n ∧ Hid (Tq.check fs l = Tq.check fs (l.drop k')) ∧ Below w.heap.size w w2) := fun h w2 hw2 => ⟨k + 1, rfl, hlt, by have := HST.out; rw [if_pos h] at this; exact Lib.hid this, hw2⟩
      have HSTOP : Hid (∀ q, Tq.ruleT fs x = q → q ≠ 0 → q = P) := fun q e hq => by have := HST.out; rw [e, if_neg hq, HP.out] at this; exact this.symm
      clear hx hb hJ HC e1 e2 hblt
      by_cases hr : Vq.Reserved x.name
      · rw [decide_eq_true hr] at hRS
        have HQ : Hid ((120 : Int) = P) := HSTOP.out 120 (by
          unfold Tq.ruleT
          rw [if_neg (fun e => Tq.not_reserved_nil (by rw [e] at hr; exact hr)), if_pos hr]) (by decide)
        clear hr hlen
        go_wp2_with fail
        refine hRS.mono ?_
        rintro e w2 ⟨rfl, hb3⟩
        have HB := Lib.hid (below_onZ HBR.out hb3)
        clear hRS hb3 s0 s1 s2
        go_wp2
        go_ret
        exact ⟨HB.out, congrArg (fun z => Ending.returned (.int .i64 z)) HQ.out⟩
      rw [decide_eq_false hr] at hRS
      have HR0 : Hid (¬ Vq.Reserved x.name) := hr
      clear hr
      go_wp2_with fail
      refine hRS.mono ?_
      rintro e w2 ⟨rfl, hb3⟩
      have hcell : ∀ j v, wr.cell? ⟨b, j, none⟩ = some v → w2.cell? ⟨b, j, none⟩ = some v := fun j v h => (hb3.cell HBLT.out).trans h
      have HB := Lib.hid (below_onZ HBR.out hb3)
      have t0 := hcell _ _ s0
      have t1 := hcell _ _ s1
      have t2 := hcell _ _ s2
      have HJX2 := Lib.hid (HJX.out.more hb3)
      have HJY2 := Lib.hid (HJY.out.more hb3)
      have HBLT2 : Hid (b < w2.heap.size) := Nat.lt_of_lt_of_le HBLT.out hb3.size
      clear hRS hb3 s0 s1 s2 hcell
      rcases str_empty x.name with ⟨q1, q2, q3⟩ | ⟨q1, q2, q3⟩
      · have hCD := refOf_any x.cond fs A A2 m c N2 c2 w2 HJY2.out HN2.out (by rw [← HN2.out]; exact HSX.out.2) (HF.out.more HB.out) HFS.out
        have HRT : Hid (Tq.ruleT fs x = Tq.cond fs x.cond) := by unfold Hid Tq.ruleT; rw [if_pos q3]
        obtain ⟨⟨t, ee⟩, et⟩ : ∃ p, Tq.of fs x.cond = p := ⟨_, rfl⟩
        rw [et] at hCD
        clear q3 hlen
        by_cases he : ee = 0
        · have d1 : (ee != 0) = false := by simp [he]
          have d2 : (ee == 0) = true := by simp [he]
          subst he
          by_cases h3 : t = 3
          · have g1 : (t != 3) = false := by simp [h3]
            have g2 : (t == 3) = true := by simp [h3]
            have HZ : Hid (Tq.ruleT fs x = 0) := by unfold Hid; rw [HRT.out, cond_0 et, if_pos h3]
            clear et h3
            go_wp2_with fail
            refine hCD.mono ?_
            rintro e w3 ⟨hb3, rfl⟩
            have HQ := Lib.hid (HSTEP.out HZ.out w3 (below_onZ HB.out hb3))
            clear hCD hb3 t0 t1 t2
            go_wp2
            go_roundw
            case rel => exact HQ.out
            case measure => simp [intOf]; omega
          · have g1 : (t != 3) = true := by simp [h3]
            have g2 : (t == 3) = false := by simp [h3]
            have HQ : Hid ((121 : Int) = P) := HSTOP.out 121 (by rw [HRT.out, cond_0 et, if_neg h3]) (by decide)
            clear et h3
            go_wp2_with fail
            refine hCD.mono ?_
            rintro e w3 ⟨hb3, rfl⟩
            have HB3 := Lib.hid (below_onZ HB.out hb3)
            clear hCD hb3 t0 t1 t2
            go_wp2
            go_ret
            exact ⟨HB3.out, congrArg (fun z => Ending.returned (.int .i64 z)) HQ.out⟩
        · have d1 : (ee != 0) = true := by simp [he]
          have d2 : (ee == 0) = false := by simp [he]
          have HQ : Hid (ee = P) := HSTOP.out ee (by rw [HRT.out, cond_1 et he]) he
          clear et he
          go_wp2_with fail
          refine hCD.mono ?_
          rintro e w3 ⟨hb3, rfl⟩
          have HB3 := Lib.hid (below_onZ HB.out hb3)
          clear hCD hb3 t0 t1 t2
          go_wp2
          go_ret
          exact ⟨HB3.out, congrArg (fun z => Ending.returned (.int .i64 z)) HQ.out⟩
      have hOF := refOf_any x.expr fs A A1 m c N1 c1 w2 HJX2.out HN1.out (by rw [← HN1.out]; exact HSX.out.1) (HF.out.more HB.out) HFS.out
      have HRT : Hid (Tq.ruleT fs x = if (Tq.of fs x.expr).2 ≠ 0 ∨ x.cond = [] then (Tq.of fs x.expr).2 else Tq.cond fs x.cond) := by unfold Hid Tq.ruleT; rw [if_neg q3, if_neg HR0.out]
      obtain ⟨⟨t, ee⟩, et⟩ : ∃ p, Tq.of fs x.expr = p := ⟨_, rfl⟩
      rw [et] at hOF HRT
      simp only at HRT
      clear q3 et
      by_cases he : ee = 0
      · have d1 : (ee != 0) = false := by simp [he]
        have d2 : (ee == 0) = true := by simp [he]
        go_wp2_with fail
        refine hOF.mono ?_
        rintro e w3 ⟨hb3, rfl⟩
        have hcell : ∀ j v, w2.cell? ⟨b, j, none⟩ = some v → w3.cell? ⟨b, j, none⟩ = some v := fun j v h => (hb3.cell HBLT2.out).trans h
        have y0 := hcell _ _ t0
        have y1 := hcell _ _ t1
        have y2 := hcell _ _ t2
        have HB3 := Lib.hid (below_onZ HB.out hb3)
        have HJY3 := Lib.hid (HJY2.out.more hb3)
        clear hOF hb3 t0 t1 t2 hcell
        by_cases h0 : N2 = 0
        · have HZ : Hid (Tq.ruleT fs x = 0) := by unfold Hid; rw [HRT.out, if_pos (.inr (hlen.1 h0)), he]
          have HQ := Lib.hid (HSTEP.out HZ.out w3 HB3.out)
          have g1 : decide ((0 : Int) < (N2 : Int)) = false := decide_eq_false (by omega)
          have g2 : decide (0 < N2) = false := decide_eq_false (by omega)
          clear hlen he
          go_wp2
          go_roundw
          case rel => exact HQ.out
          case measure => simp [intOf]; omega
        · have hpos : 0 < N2 := by omega
          have g1 : decide ((0 : Int) < (N2 : Int)) = true := decide_eq_true (by omega)
          have g2 : decide (0 < N2) = true := decide_eq_true (by omega)
          have HRC : Hid (Tq.ruleT fs x = Tq.cond fs x.cond) := by unfold Hid; rw [HRT.out, if_neg (by rintro (h | h); exact h he; exact h0 (hlen.2 h))]
          have hCD := refOf_any x.cond fs A A2 m c N2 c2 w3 HJY3.out HN2.out (by rw [← HN2.out]; exact HSX.out.2) (HF.out.more HB3.out) HFS.out
          obtain ⟨⟨t', e'⟩, et⟩ : ∃ p, Tq.of fs x.cond = p := ⟨_, rfl⟩
          rw [et] at hCD
          clear hlen h0 he
          by_cases he : e' = 0
          · subst he
            by_cases h3 : t' = 3
            · have g3 : (t' != 3) = false := by simp [h3]
              have g4 : (t' == 3) = true := by simp [h3]
              have HZ : Hid (Tq.ruleT fs x = 0) := by unfold Hid; rw [HRC.out, cond_0 et, if_pos h3]
              clear et h3
              go_wp2_with fail
              refine hCD.mono ?_
              rintro e w4 ⟨hb3, rfl⟩
              have HQ := Lib.hid (HSTEP.out HZ.out w4 (below_onZ HB3.out hb3))
              clear hCD hb3 y0 y1 y2
              go_wp2
              go_roundw
              case rel => exact HQ.out
              case measure => simp [intOf]; omega
            · have g3 : (t' != 3) = true := by simp [h3]
              have g4 : (t' == 3) = false := by simp [h3]
              have HQ : Hid ((121 : Int) = P) := HSTOP.out 121 (by rw [HRC.out, cond_0 et, if_neg h3]) (by decide)
              clear et h3
              go_wp2_with fail
              refine hCD.mono ?_
              rintro e w4 ⟨hb3, rfl⟩
              have HB4 := Lib.hid (below_onZ HB3.out hb3)
              clear hCD hb3 y0 y1 y2
              go_wp2
              go_ret
              exact ⟨HB4.out, congrArg (fun z => Ending.returned (.int .i64 z)) HQ.out⟩
          · have g3 : (e' != 0) = true := by simp [he]
            have g4 : (e' == 0) = false := by simp [he]
            have HQ : Hid (e' = P) := HSTOP.out e' (by rw [HRC.out, cond_1 et he]) he
            clear et he
            go_wp2_with fail
            refine hCD.mono ?_
            rintro e w4 ⟨hb3, rfl⟩
            have HB4 := Lib.hid (below_onZ HB3.out hb3)
            clear hCD hb3 y0 y1 y2
            go_wp2
            go_ret
            exact ⟨HB4.out, congrArg (fun z => Ending.returned (.int .i64 z)) HQ.out⟩
      · have d1 : (ee != 0) = true := by simp [he]
        have d2 : (ee == 0) = false := by simp [he]
        have HQ : Hid (ee = P) := HSTOP.out ee (by rw [HRT.out, if_pos (.inl he)]) he
        clear hlen he
        go_wp2_with fail
        refine hOF.mono ?_
        rintro e w3 ⟨hb3, rfl⟩
        have HB3 := Lib.hid (below_onZ HB.out hb3)
        clear hOF hb3 t0 t1 t2
        go_wp2
        go_ret
        exact ⟨HB3.out, congrArg (fun z => Ending.returned (.int .i64 z)) HQ.out⟩
    · obtain rfl : k = n := by omega
      have hd2 : decide ((k : Int) < (k : Int)) = false := by simp
      have HQ0 : Hid ((0 : Int) = P) := by
        have := HC.out
        rw [List.drop_of_length_le (by rw [HLN.out]; exact Nat.le_refl _), HP.out] at this
        exact this.symm
      have HB := Lib.hid hb
      clear hb
      go_wp2
      go_ret
      exact ⟨HB.out, congrArg (fun z => Ending.returned (.int .i64 z)) HQ0.out⟩
end Go.Proofs.YtgoecghakiihpaaDoor
