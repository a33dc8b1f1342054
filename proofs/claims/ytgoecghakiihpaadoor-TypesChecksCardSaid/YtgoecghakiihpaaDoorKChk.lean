/-
  Whether rules make sense: the program's ofCondition, ofRule and Check.
-/
import Derived.Test.YtgoecghakiihpaaDoorKM2
import Derived.Test.YtgoecghakiihpaaDoorKOf
namespace Go.Proofs.YtgoecghakiihpaaDoor
open Go.RowKit

/-- An error alone. -/
def ErrIs (r : Int) (w : World) (e : Ending) (w' : World) : Prop := Below w.heap.size w w' ∧ e = .returned (.int .i64 r)
theorem cond_0 {fs : List Tq.Fd} {ns : List Zq.Nd} {t : Int} (h : Tq.of fs ns = (t, 0)) : Tq.cond fs ns = if t = 3 then 0 else 121 := by
  unfold Tq.cond
  rw [h]
  by_cases e : t = 3 <;> simp [e]
theorem cond_1 {fs : List Tq.Fd} {ns : List Zq.Nd} {t e : Int} (h : Tq.of fs ns = (t, e)) (he : e ≠ 0) : Tq.cond fs ns = e := by
  unfold Tq.cond
  rw [h]
  simp [he]
set_option maxHeartbeats 1000000 in
set_option maxRecDepth 100000 in
theorem ofCondition_any {ok ok' : Nat → Prop} (ns : List Zq.Nd) (fs : List Tq.Fd) (A A' : Option Addr) (m c n c' : Nat) (w : World) (hH : HeldK w) (hN : NsE w ok' (.slice A' n c') ns) (hns : ns.length = n) (hsz : n * 48 ≤ 140737488355328) (hF : FsE w ok (.slice A m c) fs) (hfs : fs.length = m) :
    Calls Tryd.prog 26 #[.slice A' n c', .slice A m c] w (ErrIs (Tq.cond fs ns) w) := by
  have hC := of_any ns fs A A' m c n c' w hH hN hns hsz hF hfs
  obtain ⟨P, eP⟩ : ∃ P, Tq.cond fs ns = P := ⟨_, rfl⟩
  rw [eP]
  obtain ⟨⟨t, ee⟩, et⟩ : ∃ p, Tq.of fs ns = p := ⟨_, rfl⟩
  rw [et] at hC
  clear hH hN hns hF hfs
  by_cases he : ee = 0
  · subst he
    rw [cond_0 et] at eP
    by_cases h3 : t = 3
    · have d1 : (t != 3) = false := by simp [h3]
      have d2 : (t == 3) = true := by simp [h3]
      have HQ : Hid ((0 : Int) = P) := by unfold Hid; rw [← eP, if_pos h3]
      clear et eP h3
      go_enter Tryd.func26, Tryd.ntmps26
      go_wp2_with fail
      refine hC.mono ?_
      rintro e w2 ⟨hb, rfl⟩
      have HB := Lib.hid hb
      clear hC hb
      go_wp2
      go_ret
      exact ⟨HB.out, congrArg (fun z => Ending.returned (.int .i64 z)) HQ.out⟩
    · have d1 : (t != 3) = true := by simp [h3]
      have d2 : (t == 3) = false := by simp [h3]
      have HQ : Hid ((121 : Int) = P) := by unfold Hid; rw [← eP, if_neg h3]
      clear et eP h3
      go_enter Tryd.func26, Tryd.ntmps26
      go_wp2_with fail
      refine hC.mono ?_
      rintro e w2 ⟨hb, rfl⟩
      have HB := Lib.hid hb
      clear hC hb
      go_wp2
      go_ret
      exact ⟨HB.out, congrArg (fun z => Ending.returned (.int .i64 z)) HQ.out⟩
  · have d1 : (ee == 0) = false := beq_false_of_ne he
    have d2 : decide (ee = 0) = false := decide_eq_false he
    have HQ : Hid (ee = P) := by unfold Hid; rw [← eP, cond_1 et he]
    clear et eP he
    go_enter Tryd.func26, Tryd.ntmps26
    go_wp2_with fail
    refine hC.mono ?_
    rintro e w2 ⟨hb, rfl⟩
    have HB := Lib.hid hb
    clear hC hb
    go_wp2
    go_ret
    exact ⟨HB.out, congrArg (fun z => Ending.returned (.int .i64 z)) HQ.out⟩
/-- Rows of nodes that are not too long. -/
def SzR (r : Zq.Rl) : Prop := r.expr.length * 48 ≤ 140737488355328 ∧ r.cond.length * 48 ≤ 140737488355328
set_option maxHeartbeats 2000000 in
set_option maxRecDepth 100000 in
theorem ofRule_any {ok ok' : Nat → Prop} (r : Zq.Rl) (fs : List Tq.Fd) (A A1 A2 : Option Addr) (m c n1 c1 n2 c2 : Nat) (w : World) (hH : HeldK w) (hnm : ∀ x ∈ r.name, x < 256) (hX : NsE w ok' (.slice A1 n1 c1) r.expr) (hY : NsE w ok' (.slice A2 n2 c2) r.cond) (hn1 : r.expr.length = n1) (hn2 : r.cond.length = n2) (hsz : SzR r) (hF : FsE w ok (.slice A m c) fs) (hfs : fs.length = m) :
    Calls Tryd.prog 18 #[.agg #[.string (strOf r.name), .slice A1 n1 c1, .slice A2 n2 c2], .slice A m c] w (ErrIs (Tq.ruleT fs r) w) := by
  obtain ⟨P, eP⟩ : ∃ P, Tq.ruleT fs r = P := ⟨_, rfl⟩
  rw [eP]
  obtain ⟨W2, eW2⟩ : ∃ W2, W2 = w.alloc (.cells #[.string (strOf r.name), .slice A1 n1 c1, .slice A2 n2 c2] 48) := ⟨_, rfl⟩
  have hb2 : Below w.heap.size w W2 := by rw [eW2]; exact below_new _ _
  have hl2 : Lies W2 w.heap.size 48 [.string (strOf r.name), .slice A1 n1 c1, .slice A2 n2 c2] := by rw [eW2]; exact Lies.new_ rfl
  have HF := Lib.hid hF
  have HFS := Lib.hid hfs
  have HH : Hid (HeldK w) := hH
  have HX := Lib.hid hX
  have HY := Lib.hid hY
  have HSZ := Lib.hid hsz
  have HN1 := Lib.hid hn1
  have HN2 := Lib.hid hn2
  have HB2 := Lib.hid hb2
  have HL2 := Lib.hid hl2
  have HW2 := Lib.hid eW2
  obtain ⟨⟨z0, z1, z2⟩, _⟩ := hl2.cells3
  have hRS := reserved_any r.name hnm W2
  have hCD := ofCondition_any r.cond fs A A2 m c n2 c2 W2 (hH.below hb2) (hY.more hb2) hn2 (by rw [← hn2]; exact hsz.2) (hF.more hb2) hfs
  have hOF := of_any r.expr fs A A1 m c n1 c1 W2 (hH.below hb2) (hX.more hb2) hn1 (by rw [← hn1]; exact hsz.1) (hF.more hb2) hfs
  rw [eW2] at z0 z1 z2 hRS hCD hOF
  clear hH hnm hX hY hsz hF hb2 hl2 eW2
  rcases str_empty r.name with ⟨q1, q2, q3⟩ | ⟨q1, q2, q3⟩
  · have HQ : Hid (Tq.cond fs r.cond = P) := by unfold Hid; rw [← eP]; unfold Tq.ruleT; rw [if_pos q3]
    clear eP q3 hRS hOF hn1 hn2 hfs
    go_enter Tryd.func18, Tryd.ntmps18
    go_wp2_with fail
    refine hCD.mono ?_
    rintro e w2 ⟨hb, rfl⟩
    rw [← HW2.out] at hb
    have HB := Lib.hid (below_onZ HB2.out hb)
    clear hCD hb z0 z1 z2
    go_wp2
    go_ret
    exact ⟨HB.out, congrArg (fun z => Ending.returned (.int .i64 z)) HQ.out⟩
  unfold Tq.ruleT at eP
  rw [if_neg q3] at eP
  by_cases hr : Vq.Reserved r.name
  · rw [if_pos hr] at eP
    rw [decide_eq_true hr] at hRS
    have HQ := Lib.hid eP
    clear eP hCD hOF hr q3 hn1 hn2 hfs
    go_enter Tryd.func18, Tryd.ntmps18
    go_wp2_with fail
    refine hRS.mono ?_
    rintro e w2 ⟨rfl, rfl⟩
    rw [← HW2.out]
    rw [← HW2.out] at z0 z1 z2
    clear hRS
    go_wp2
    go_ret
    exact ⟨HB2.out, congrArg (fun z => Ending.returned (.int .i64 z)) HQ.out⟩
  rw [if_neg hr] at eP
  rw [decide_eq_false hr] at hRS
  obtain ⟨⟨t, ee⟩, et⟩ : ∃ p, Tq.of fs r.expr = p := ⟨_, rfl⟩
  rw [et] at hOF eP
  simp only at eP
  have hlen : n2 = 0 ↔ r.cond = [] := by rw [← hn2]; exact List.length_eq_zero_iff
  clear hn1 hn2 hfs hr q3 hCD
  by_cases he : ee = 0
  · have d1 : (ee != 0) = false := by simp [he]
    have d2 : (ee == 0) = true := by simp [he]
    by_cases h0 : n2 = 0
    · have HQ : Hid (ee = P) := by unfold Hid; rw [if_pos (.inr (hlen.1 h0))] at eP; exact eP
      have g1 : ((n2 : Int) == 0) = true := by simp [h0]
      have g2 : decide ((n2 : Int) = 0) = true := by simp [h0]
      clear eP et he hlen h0
      go_enter Tryd.func18, Tryd.ntmps18
      go_wp2_with fail
      refine hRS.mono ?_
      rintro e w2 ⟨rfl, rfl⟩
      go_wp2_with fail
      refine hOF.mono ?_
      rintro e w2 ⟨hb, rfl⟩
      rw [← HW2.out] at hb
      have HB := Lib.hid (below_onZ HB2.out hb)
      obtain ⟨⟨y0, y1, y2⟩, _⟩ := (HL2.out.below hb HL2.out.lt).cells3
      clear hOF hRS hb z0 z1 z2
      go_wp2
      go_ret
      exact ⟨HB.out, congrArg (fun z => Ending.returned (.int .i64 z)) HQ.out⟩
    · have HQ : Hid (Tq.cond fs r.cond = P) := by unfold Hid; rw [if_neg (by rintro (h | h); exact h he; exact h0 (hlen.2 h))] at eP; exact eP
      have g1 : ((n2 : Int) == 0) = false := beq_false_of_ne (by omega)
      have g2 : decide ((n2 : Int) = 0) = false := decide_eq_false (by omega)
      clear eP et he hlen h0
      go_enter Tryd.func18, Tryd.ntmps18
      go_wp2_with fail
      refine hRS.mono ?_
      rintro e w2 ⟨rfl, rfl⟩
      go_wp2_with fail
      refine hOF.mono ?_
      rintro e w2 ⟨hb, rfl⟩
      rw [← HW2.out] at hb
      have HB := Lib.hid (below_onZ HB2.out hb)
      obtain ⟨⟨y0, y1, y2⟩, _⟩ := (HL2.out.below hb HL2.out.lt).cells3
      have hCD := ofCondition_any r.cond fs A A2 m c n2 c2 w2 (HH.out.below HB.out) (HY.out.more HB.out) HN2.out (by rw [← HN2.out]; exact HSZ.out.2) (HF.out.more HB.out) HFS.out
      clear hOF hRS hb z0 z1 z2
      go_wp2_with fail
      refine hCD.mono ?_
      rintro e w3 ⟨hb, rfl⟩
      have HB3 := Lib.hid (below_onZ HB.out hb)
      clear hCD hb y0 y1 y2
      go_wp2
      go_ret
      exact ⟨HB3.out, congrArg (fun z => Ending.returned (.int .i64 z)) HQ.out⟩
  · have d1 : (ee != 0) = true := by simp [he]
    have d2 : (ee == 0) = false := by simp [he]
    have HQ : Hid (ee = P) := by unfold Hid; rw [if_pos (.inl he)] at eP; exact eP
    clear eP et he hlen
    go_enter Tryd.func18, Tryd.ntmps18
    go_wp2_with fail
    refine hRS.mono ?_
    rintro e w2 ⟨rfl, rfl⟩
    go_wp2_with fail
    refine hOF.mono ?_
    rintro e w2 ⟨hb, rfl⟩
    rw [← HW2.out] at hb
    have HB := Lib.hid (below_onZ HB2.out hb)
    clear hOF hRS hb z0 z1 z2
    go_wp2
    go_ret
    exact ⟨HB.out, congrArg (fun z => Ending.returned (.int .i64 z)) HQ.out⟩

/-- Rules that are not too long. -/
def SzRs (l : List Zq.Rl) : Prop := ∀ r ∈ l, SzR r
theorem check_at {fs : List Tq.Fd} {l : List Zq.Rl} {k : Nat} {r : Zq.Rl} (h : Tq.check fs l = Tq.check fs (l.drop k)) (hr : l[k]? = some r) : Tq.check fs l = if Tq.ruleT fs r = 0 then Tq.check fs (l.drop (k + 1)) else Tq.ruleT fs r := by
  rw [h, drop_at hr, Tq.check]
set_option maxHeartbeats 2000000 in
set_option maxRecDepth 100000 in
theorem check12_any {ok ok' : Nat → Prop} (l : List Zq.Rl) (fs : List Tq.Fd) (A A' : Option Addr) (m c n c' : Nat) (w : World) (hH : HeldK w) (hL : RsE w ok' (.slice A' n c') l) (hl : l.length = n) (hsz : SzRs l) (hF : FsE w ok (.slice A m c) fs) (hfs : fs.length = m) :
    Calls Tryd.prog 11 #[.slice A' n c', .slice A m c] w (ErrIs (Tq.check fs l) w) := by
  obtain ⟨P, eP⟩ : ∃ P, Tq.check fs l = P := ⟨_, rfl⟩
  have hns : n ≤ 9223372036854775807 := by
    obtain ⟨_, _, e, h1, h2, _⟩ := hL
    injection e with _ e2 e3
    omega
  have HP := Lib.hid eP
  have HL := Lib.hid hL
  have HLN := Lib.hid hl
  have HSZ := Lib.hid hsz
  have HF := Lib.hid hF
  have HFS := Lib.hid hfs
  have HH : Hid (HeldK w) := hH
  rw [eP]
  clear hH hL hl hsz hF hfs eP
  go_enter Tryd.func11, Tryd.ntmps11
  go_wp2_with fail
  go_loopw [10] (fun i wr => ∃ k : Nat, i = .int .i64 k ∧ k ≤ n ∧ Hid (Tq.check fs l = Tq.check fs (l.drop k)) ∧ Below w.heap.size w wr) (fun i _ => n - (intOf i).toNat)
  case atStart => exact ⟨0, rfl, Nat.zero_le _, Lib.hid rfl, Below.refl _ _⟩
  case round =>
    obtain ⟨k, rfl, hk, HC, hb⟩ := hrel
    by_cases hlt : k < n
    · obtain ⟨b, off, x, A1, c1, A2, c2, rfl, _, hblt, hx, hJ, s0, s1, s2⟩ := (HL.out.more hb).elem (i := k) (by rw [HLN.out]; exact hlt)
      have hb2 := below_new wr (.cells #[.string (strOf x.name), .slice A1 x.expr.length c1, .slice A2 x.cond.length c2] 48)
      have hbW := below_onZ hb hb2
      have hJ2 := hJ.more hb2
      have hR := ofRule_any x fs A A1 A2 m c _ c1 _ c2 _ (HH.out.below hbW) hJ2.2.1 hJ2.2.2.1 hJ2.2.2.2 rfl rfl (HSZ.out x (List.mem_of_getElem? hx)) (HF.out.more hbW) HFS.out
      have HST := Lib.hid (check_at HC.out hx)
      obtain ⟨q, eq⟩ : ∃ q, Tq.ruleT fs x = q := ⟨_, rfl⟩
      rw [eq] at hR HST
      have HBW := Lib.hid hbW
      clear hb hb2 hbW hJ hJ2 eq hx
      by_cases h0 : q = 0
      · have d1 : (q != 0) = false := by simp [h0]
        have d2 : (q == 0) = true := by simp [h0]
        have HQ0 : Hid (Tq.check fs l = Tq.check fs (l.drop (k + 1))) := by have := HST.out; rw [if_pos h0] at this; exact this
        clear h0
        go_wp2_with fail
        refine hR.mono ?_
        rintro e w2 ⟨hb3, rfl⟩
        have HQ : Hid (∃ k' : Nat, Value.int .i64 ((k + 1 : Nat) : Int) = .int .i64 k' ∧ k' ≤ n ∧ Hid (Tq.check fs l = Tq.check fs (l.drop k')) ∧ Below w.heap.size w w2) := ⟨k + 1, rfl, hlt, HQ0, below_onZ HBW.out hb3⟩
        clear hR hb3 s0 s1 s2
        go_wp2
        go_roundw
        case rel => exact HQ.out
        case measure => simp [intOf]; omega
      · have d1 : (q != 0) = true := by simp [h0]
        have d2 : (q == 0) = false := by simp [h0]
        have HQ0 : Hid (q = P) := by have := HST.out; rw [if_neg h0, HP.out] at this; exact this.symm
        clear h0
        go_wp2_with fail
        refine hR.mono ?_
        rintro e w2 ⟨hb3, rfl⟩
        have HB := Lib.hid (below_onZ HBW.out hb3)
        clear hR hb3 s0 s1 s2
        go_wp2
        go_ret
        exact ⟨HB.out, congrArg (fun z => Ending.returned (.int .i64 z)) HQ0.out⟩
    · obtain rfl : k = n := by omega
      have hd2 : decide ((k : Int) < (k : Int)) = false := by simp
      have HQ0 : Hid ((0 : Int) = P) := by
        have := HC.out
        rw [List.drop_of_length_le (by rw [HLN.out]; exact Nat.le_refl _), HP.out] at this
        exact this.symm
      have HB := Lib.hid hb
      clear hb
      go_wp2
      go_ret
      exact ⟨HB.out, congrArg (fun z => Ending.returned (.int .i64 z)) HQ0.out⟩
end Go.Proofs.YtgoecghakiihpaaDoor
