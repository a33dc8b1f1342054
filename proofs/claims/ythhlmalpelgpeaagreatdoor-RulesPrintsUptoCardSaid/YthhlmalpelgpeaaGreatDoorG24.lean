/-
  G24: ZRm ZV, side by side.
-/
import Derived.Test.YthhlmalpelgpeaaGreatDoorG07
import Derived.Test.YthhlmalpelgpeaaGreatDoorG08
import Derived.Test.YthhlmalpelgpeaaGreatDoorG22

/-
  The reader of rules: all rules.
-/
namespace Go.Proofs.YthhlmalpelgpeaaGreatDoor
open Go.RowKit

theorem three_ones {t : ByteArray} {A A' : Option Addr} {n c n' c' : Nat} : ∀ u ∈ ([.string t, .slice A n c, .slice A' n' c'] : List Value), u.oneCell' = true := by
  intro u hu
  simp at hu
  rcases hu with rfl | rfl | rfl <;> rfl
def rlen : Value → Nat
  | .slice _ n _ => n
  | _ => 0
/-- What rules has read so far. -/
def RsRel (W0 : World) (R S B : Nat) (res : Except Nat (List Zq.Rl)) (lv : Value) (wr : World) : Prop :=
  ∃ rs l n, RowR R S B rs lv wr ∧ Ro W0 R S 0 l wr ∧ rs.length ≤ 16 ∧ 18 ≤ rs.length + n ∧ res = Zq.rulesP n rs l
theorem Ro.ctx {W0 w : World} {R S B : Nat} {l : List Nat} (h : Ro W0 R S B l w) : R < w.heap.size ∧ S < w.heap.size := ⟨h.lt.1, h.lt.2.1⟩
section
variable {W0 w : World} {R S B : Nat} {l : List Nat}
set_option maxHeartbeats 8000000 in
set_option maxRecDepth 100000 in
theorem rules_any (hAdv : AdvOk) (h : Ro W0 R S B l w) :
    Calls Tryz.prog 22 #[rp R] w (RulesEnd W0 R S w.heap.size (Zq.rulesP 18 [] l)) := by
  obtain ⟨res, eres⟩ : ∃ res, Zq.rulesP 18 [] l = res := ⟨_, rfl⟩
  rw [eres]
  have h0 : Hid (RsRel W0 R S w.heap.size res (.slice none 0 0) w) := ⟨[], l, 18, RowR.nil (Nat.le_refl _), h.down (Nat.zero_le _), by simp, by simp, eres.symm⟩
  have HRS : Hid (R < w.heap.size ∧ S < w.heap.size ∧ W0.heap.size ≤ w.heap.size) := ⟨h.lt.1, h.lt.2.1, h.lt.2.2.2.2⟩
  have HA := Lib.hid hAdv
  have hI := isWord_any
  clear h hAdv eres
  go_enter Tryz.func22, Tryz.ntmps22
  go_wp2_with fail
  go_loopw [3] (fun lv wr => RsRel W0 R S w.heap.size res lv wr) (fun lv _ => 17 - rlen lv)
  case atStart => exact h0.out
  case round =>
    obtain ⟨rs, l2, n, hrow, hro, h16, hn, hres⟩ := hrel
    obtain ⟨n, rfl⟩ : ∃ n', n = n' + 1 := ⟨n - 1, by omega⟩
    obtain ⟨A0, c0, rfl⟩ := hrow.form
    have hN := next_ro HA.out hro
    have HROW0 := Lib.hid hrow
    have HN : Hid (18 ≤ rs.length + (n + 1)) := hn
    have H16 : Hid (rs.length ≤ 16) := h16
    have HRES := Lib.hid (hres.trans (rules_step n rs l2))
    clear hrow hro h16 hn hres h0
    go_wp2_with fail
    refine hN.mono ?_
    rintro e w1 ⟨hfr, ⟨x, q, hx, rfl, h1⟩ | ⟨hx, rfl, h1⟩⟩
    rotate_left
    · have HROW1 := Lib.hid (HROW0.out.fr hfr HRS.out.1 HRS.out.2.1)
      have HERR : Hid (∃ er, res = .error er) := ⟨111, by rw [HRES.out, over_none hx]⟩
      have hN1 := next_rb h1
      have hI1 := hI 1 w1
      rw [show decide ((14 : Int) ≤ 1) = false from rfl] at hI1
      have hRu := rule_rb h1
      have HLT : Hid (w.heap.size ≤ w1.heap.size) := HROW1.out.1
      clear hN hI h1 hx hfr
      go_wp2_with fail
      refine hN1.mono ?_
      rintro e w2 ⟨rfl, rfl⟩
      clear hN1
      go_wp2_with fail
      refine hI1.mono ?_
      rintro e w2 ⟨rfl, rfl⟩
      clear hI1
      go_wp2_with fail
      refine hRu.mono ?_
      rintro e w3 ⟨hfr, ⟨t, A, m, c, A', m', c', rfl⟩, h3⟩
      clear hRu
      have HROW := Lib.hid (HROW1.out.fr hfr HRS.out.1 HRS.out.2.1)
      have HGB : Hid (∀ g, (Value.slice A0 rs.length c0).ownBlock = some g → g < w1.heap.size ∧ W0.heap.size ≤ g ∧ g ≠ R ∧ g ≠ S ∧ g < w3.heap.size) := fun g e => by
        have k1 := HROW1.out.lt g e
        have k2 := HROW.out.lt g e
        have k3 := HRS.out
        exact ⟨k1.2, by omega, by omega, by omega, k2.2⟩
      have HRB := Lib.hid h3
      clear hfr h3
      obtain ⟨r1, us, r2, r3, r4⟩ := HROW.out
      obtain ⟨i0, hi, hz0, hz1, hz2⟩ := info_parts infoRule
      have hbx := box_below w3 (.cells #[.string t, (.slice A m c), (.slice A' m' c')] 35)
      have hlt17 := H16.out
      repeat ((fail_if_success (with_reducible show wpList _ _ _ (⟨some 21, _, _, _, _, _⟩ :: _) _ _)); first | go_values | go_skip | go_guarded | go_step | go_upon | go_back | go_simp)
      with_reducible refine wpList_append_own_at _ rfl (.tmp 17) (.tmp 20) 22 rfl w.heap.size 35 i0 (.agg #[.string ByteArray.empty, .slice none 0 0, .slice none 0 0]) 3 64 Tryz.underlying22 hi hz0 hz1 hz2 rfl (by decide) _ rs.length (rcells3 us) ?s1 (own_below r3 hbx) ⟨w3.heap.size, 0, none⟩ 1 1 [.string t, (.slice A m c), (.slice A' m' c')] ?s2 rfl ?s3 ?s7 ?s4 ?s5 ?s6 ?_
      case s1 => rfl
      case s2 => rfl
      case s3 => exact fun j u hj => new_cells w3 _ _ j u hj
      case s7 => exact three_ones
      case s4 => unfold maxLen; omega
      case s5 => omega
      case s6 => exact Nat.le_trans r1 hbx.size
      intro lv5 w5 hown5 hgr5 _ hat5
      obtain ⟨A5, c5, rfl⟩ := own_slice hown5
      have h5 := (HRB.out.more hbx).grown hgr5 (fun g e => by
        have := HGB.out g e
        have := HLT.out
        have := hbx.size
        omega)
      have hTk := takes_rb 9 (by decide) h5
      have hMu := must_rb 2 (by decide) h5
      clear hown5 hgr5 hat5 r1 r2 r3 r4 hi hz0 hz1 hz2 hbx h5 hlt17
      go_frame
      go_wp2_with fail
      refine hTk.mono ?_
      rintro e w6 ⟨rfl, rfl⟩
      clear hTk
      go_wp2_with fail
      refine hMu.mono ?_
      rintro e w7 ⟨rfl, _, h7⟩
      have HE : Hid (RulesEnd W0 R S w.heap.size res (.returned (.slice A5 (rs.length + 1) c5)) w7) := .inr ⟨HERR.out, ⟨_, _, _, rfl⟩, h7.down (Nat.zero_le _)⟩
      clear hMu h7
      go_wp2
      go_ret
      exact HE.out
    have HROW1 := Lib.hid (HROW0.out.fr hfr HRS.out.1 HRS.out.2.1)
    have HLT : Hid (w.heap.size ≤ w1.heap.size) := HROW1.out.1
    by_cases hk2 : Zq.kOf x = 2
    · have hMu := must_ro HA.out 2 (by decide) (h1.ok hx)
      have HH : Hid (Here 2 l2 q) := ⟨x, hx, hk2⟩
      have HR1 : Hid (res = .ok rs) := by unfold Hid; rw [HRES.out, over_some hx, decide_eq_true ((fin_iff hx).2 hk2)]
      rw [hk2]
      clear hN hI h1 hx hfr hk2
      go_wp2_with fail
      refine hMu.mono ?_
      rintro e w2 ⟨rfl, hfr, ⟨q2, hq, h2⟩ | ⟨hq, h2⟩⟩
      · have HE : Hid (RulesEnd W0 R S w.heap.size res (.returned (.slice A0 rs.length c0)) w2) := .inl ⟨rs, _, q2, HR1.out, rfl, HROW1.out.fr hfr HRS.out.1 HRS.out.2.1, H16.out, h2.down (Nat.zero_le _)⟩
        clear hMu hfr h2 hq
        go_wp2
        go_ret
        exact HE.out
      · exact absurd HH.out (hq q)
    have HNF : Hid (res = match Zq.ruleP rs.length l2 with
      | .error e => .error e
      | .ok (r, l2) => match Zq.overP l2 with
        | .error e => .error e
        | .ok true => .ok (rs ++ [r])
        | .ok false => match Zq.past [59] l2 with
          | .error e => .error e
          | .ok l3 => Zq.rulesP n (rs ++ [r]) l3) := by
      unfold Hid
      rw [HRES.out, over_some hx, decide_eq_false (fun e => hk2 ((fin_iff hx).1 e))]
      rfl
    obtain ⟨k, ek⟩ : ∃ k, Zq.kOf x = k := ⟨_, rfl⟩
    have hb2 : ((k : Int) != 2) = true := bne_int (by omega)
    have hN1 := next_ra hx h1
    have hI1 := hI (k : Int) w1
    have HX := Lib.hid hx
    have H1 := Lib.hid h1
    have HK := Lib.hid ek
    have HWD := Lib.hid (Zq.kOf_nonword hx)
    rw [ek] at hN1 ⊢
    clear hN hI h1 hx hfr hk2
    by_cases h14 : 14 ≤ k
    rotate_left
    · rw [decide_eq_false (show ¬ (14 : Int) ≤ (k : Int) by omega)] at hI1
      have hRu := rule_any (m := 0) HA.out (by decide) (H1.out.ok HX.out)
      have HNO : Hid (∀ m, ∃ er, Zq.ruleP m l2 = .error er) := fun m => rule_no HX.out (by rw [HK.out]; omega) (by rw [HK.out]; omega)
      have HERR : Hid (∃ er, res = .error er) := by
        obtain ⟨er, her⟩ := HNO.out rs.length
        exact ⟨er, by rw [HNF.out, her]⟩
      clear hb2 ek
      have hb2 : ((k : Int) != 2) = true := bne_int (by
        intro e
        have e : k = 2 := by omega
        have := HNF.out
        subst e
        rw [HRES.out, over_some HX.out, decide_eq_true ((fin_iff HX.out).2 HK.out)] at this
        obtain ⟨er, her⟩ := HNO.out rs.length
        rw [her] at this
        cases this)
      clear h14
      go_wp2_with fail
      refine hN1.mono ?_
      rintro e w2 ⟨rfl, rfl⟩
      clear hN1
      go_wp2_with fail
      refine hI1.mono ?_
      rintro e w2 ⟨rfl, rfl⟩
      clear hI1
      go_wp2_with fail
      refine hRu.mono ?_
      rintro e w3 ⟨hfr, ⟨r, q3, ev, wv, hr, _⟩ | ⟨_, ⟨t, A, m, c, A', m', c', rfl⟩, h3⟩⟩
      · exfalso
        obtain ⟨er, her⟩ := HNO.out 0
        rw [her] at hr
        cases hr
      clear hRu
      have HROW := Lib.hid (HROW1.out.fr hfr HRS.out.1 HRS.out.2.1)
      have HGB : Hid (∀ g, (Value.slice A0 rs.length c0).ownBlock = some g → g < w1.heap.size ∧ W0.heap.size ≤ g ∧ g ≠ R ∧ g ≠ S ∧ g < w3.heap.size) := fun g e => by
        have k1 := HROW1.out.lt g e
        have k2 := HROW.out.lt g e
        have k3 := HRS.out
        exact ⟨k1.2, by omega, by omega, by omega, k2.2⟩
      have HRB := Lib.hid h3
      clear hfr h3
      obtain ⟨r1, us, r2, r3, r4⟩ := HROW.out
      obtain ⟨i0, hi, hz0, hz1, hz2⟩ := info_parts infoRule
      have hbx := box_below w3 (.cells #[.string t, (.slice A m c), (.slice A' m' c')] 35)
      have hlt17 := H16.out
      repeat ((fail_if_success (with_reducible show wpList _ _ _ (⟨some 21, _, _, _, _, _⟩ :: _) _ _)); first | go_values | go_skip | go_guarded | go_step | go_upon | go_back | go_simp)
      with_reducible refine wpList_append_own_at _ rfl (.tmp 17) (.tmp 20) 22 rfl w.heap.size 35 i0 (.agg #[.string ByteArray.empty, .slice none 0 0, .slice none 0 0]) 3 64 Tryz.underlying22 hi hz0 hz1 hz2 rfl (by decide) _ rs.length (rcells3 us) ?s1 (own_below r3 hbx) ⟨w3.heap.size, 0, none⟩ 1 1 [.string t, (.slice A m c), (.slice A' m' c')] ?s2 rfl ?s3 ?s7 ?s4 ?s5 ?s6 ?_
      case s1 => rfl
      case s2 => rfl
      case s3 => exact fun j u hj => new_cells w3 _ _ j u hj
      case s7 => exact three_ones
      case s4 => unfold maxLen; omega
      case s5 => omega
      case s6 => exact Nat.le_trans r1 hbx.size
      intro lv5 w5 hown5 hgr5 _ hat5
      obtain ⟨A5, c5, rfl⟩ := own_slice hown5
      have h5 := (HRB.out.more hbx).grown hgr5 (fun g e => by
        have := HGB.out g e
        have := HLT.out
        have := hbx.size
        omega)
      have hTk := takes_rb 9 (by decide) h5
      have hMu := must_rb 2 (by decide) h5
      clear hown5 hgr5 hat5 r1 r2 r3 r4 hi hz0 hz1 hz2 hbx h5 hlt17
      go_frame
      go_wp2_with fail
      refine hTk.mono ?_
      rintro e w6 ⟨rfl, rfl⟩
      clear hTk
      go_wp2_with fail
      refine hMu.mono ?_
      rintro e w7 ⟨rfl, _, h7⟩
      have HE : Hid (RulesEnd W0 R S w.heap.size res (.returned (.slice A5 (rs.length + 1) c5)) w7) := .inr ⟨HERR.out, ⟨_, _, _, rfl⟩, h7.down (Nat.zero_le _)⟩
      clear hMu h7
      go_wp2
      go_ret
      exact HE.out
    rw [decide_eq_true (show (14 : Int) ≤ (k : Int) by omega)] at hI1
    by_cases hf : rs.length = 16
    · have e16 : ((rs.length : Int) == 16) = true := by rw [hf]; rfl
      have hF := fail_ra (c := 112) (by decide) H1.out
      have HERR : Hid (∃ er, res = .error er) := by
        obtain ⟨t, rfl⟩ := HWD.out.1 (by rw [HK.out]; exact h14)
        refine ⟨112, ?_⟩
        rw [HNF.out]
        unfold Zq.ruleP Zq.nameP
        simp only [HX.out]
        rw [if_pos (by omega)]
      clear hf h14 ek
      go_wp2_with fail
      refine hN1.mono ?_
      rintro e w2 ⟨rfl, rfl⟩
      clear hN1
      go_wp2_with fail
      refine hI1.mono ?_
      rintro e w2 ⟨rfl, rfl⟩
      clear hI1
      go_wp2_with fail
      refine hF.mono ?_
      rintro e w2 ⟨rfl, hfr, h2⟩
      clear hF
      have HROW2 := Lib.hid (HROW1.out.fr hfr HRS.out.1 HRS.out.2.1)
      have hRu := rule_rb h2
      clear hfr h2
      go_wp2_with fail
      refine hRu.mono ?_
      rintro e w3 ⟨hfr, ⟨t, A, m, c, A', m', c', rfl⟩, h3⟩
      clear hRu
      have HROW := Lib.hid (HROW2.out.fr hfr HRS.out.1 HRS.out.2.1)
      have HGB : Hid (∀ g, (Value.slice A0 rs.length c0).ownBlock = some g → g < w2.heap.size ∧ W0.heap.size ≤ g ∧ g ≠ R ∧ g ≠ S ∧ g < w3.heap.size) := fun g e => by
        have k1 := HROW2.out.lt g e
        have k2 := HROW.out.lt g e
        have k3 := HRS.out
        exact ⟨k1.2, by omega, by omega, by omega, k2.2⟩
      have HRB := Lib.hid h3
      clear hfr h3 e16
      obtain ⟨r1, us, r2, r3, r4⟩ := HROW.out
      obtain ⟨i0, hi, hz0, hz1, hz2⟩ := info_parts infoRule
      have hbx := box_below w3 (.cells #[.string t, (.slice A m c), (.slice A' m' c')] 35)
      have hlt17 := H16.out
      repeat ((fail_if_success (with_reducible show wpList _ _ _ (⟨some 21, _, _, _, _, _⟩ :: _) _ _)); first | go_values | go_skip | go_guarded | go_step | go_upon | go_back | go_simp)
      with_reducible refine wpList_append_own_at _ rfl (.tmp 17) (.tmp 20) 22 rfl w.heap.size 35 i0 (.agg #[.string ByteArray.empty, .slice none 0 0, .slice none 0 0]) 3 64 Tryz.underlying22 hi hz0 hz1 hz2 rfl (by decide) _ rs.length (rcells3 us) ?s1 (own_below r3 hbx) ⟨w3.heap.size, 0, none⟩ 1 1 [.string t, (.slice A m c), (.slice A' m' c')] ?s2 rfl ?s3 ?s7 ?s4 ?s5 ?s6 ?_
      case s1 => rfl
      case s2 => rfl
      case s3 => exact fun j u hj => new_cells w3 _ _ j u hj
      case s7 => exact three_ones
      case s4 => unfold maxLen; omega
      case s5 => omega
      case s6 => exact Nat.le_trans r1 hbx.size
      intro lv5 w5 hown5 hgr5 _ hat5
      obtain ⟨A5, c5, rfl⟩ := own_slice hown5
      have h5 := (HRB.out.more hbx).grown hgr5 (fun g e => by
        have := HGB.out g e
        have := HLT.out
        have := hbx.size
        omega)
      have hTk := takes_rb 9 (by decide) h5
      have hMu := must_rb 2 (by decide) h5
      clear hown5 hgr5 hat5 r1 r2 r3 r4 hi hz0 hz1 hz2 hbx h5 hlt17
      go_frame
      go_wp2_with fail
      refine hTk.mono ?_
      rintro e w6 ⟨rfl, rfl⟩
      clear hTk
      go_wp2_with fail
      refine hMu.mono ?_
      rintro e w7 ⟨rfl, _, h7⟩
      have HE : Hid (RulesEnd W0 R S w.heap.size res (.returned (.slice A5 (rs.length + 1) c5)) w7) := .inr ⟨HERR.out, ⟨_, _, _, rfl⟩, h7.down (Nat.zero_le _)⟩
      clear hMu h7
      go_wp2
      go_ret
      exact HE.out
    have e16 : ((rs.length : Int) == 16) = false := ne_int (by omega)
    have hm16 : rs.length < 16 := by have := H16.out; omega
    have hRu := rule_any HA.out hm16 (H1.out.ok HX.out)
    have HM16 : Hid (rs.length < 16) := hm16
    clear hf h14 ek hm16
    go_wp2_with fail
    refine hN1.mono ?_
    rintro e w2 ⟨rfl, rfl⟩
    clear hN1
    go_wp2_with fail
    refine hI1.mono ?_
    rintro e w2 ⟨rfl, rfl⟩
    clear hI1
    go_wp2_with fail
    refine hRu.mono ?_
    rintro e w3 ⟨hfr, ⟨r, q3, ev, wv, hr, rfl, hev, hwv, hl1, hl2, h3⟩ | ⟨⟨er, her⟩, ⟨t, A, m, c, A', m', c', rfl⟩, h3⟩⟩
    rotate_left
    · clear hRu
      have HERR : Hid (∃ er, res = .error er) := ⟨er, by rw [HNF.out, her]⟩
      have HROW := Lib.hid (HROW1.out.fr hfr HRS.out.1 HRS.out.2.1)
      have HGB : Hid (∀ g, (Value.slice A0 rs.length c0).ownBlock = some g → g < w1.heap.size ∧ W0.heap.size ≤ g ∧ g ≠ R ∧ g ≠ S ∧ g < w3.heap.size) := fun g e => by
        have k1 := HROW1.out.lt g e
        have k2 := HROW.out.lt g e
        have k3 := HRS.out
        exact ⟨k1.2, by omega, by omega, by omega, k2.2⟩
      have HRB := Lib.hid h3
      clear hfr h3 e16 her
      obtain ⟨r1, us, r2, r3, r4⟩ := HROW.out
      obtain ⟨i0, hi, hz0, hz1, hz2⟩ := info_parts infoRule
      have hbx := box_below w3 (.cells #[.string t, (.slice A m c), (.slice A' m' c')] 35)
      have hlt17 := H16.out
      repeat ((fail_if_success (with_reducible show wpList _ _ _ (⟨some 21, _, _, _, _, _⟩ :: _) _ _)); first | go_values | go_skip | go_guarded | go_step | go_upon | go_back | go_simp)
      with_reducible refine wpList_append_own_at _ rfl (.tmp 17) (.tmp 20) 22 rfl w.heap.size 35 i0 (.agg #[.string ByteArray.empty, .slice none 0 0, .slice none 0 0]) 3 64 Tryz.underlying22 hi hz0 hz1 hz2 rfl (by decide) _ rs.length (rcells3 us) ?s1 (own_below r3 hbx) ⟨w3.heap.size, 0, none⟩ 1 1 [.string t, (.slice A m c), (.slice A' m' c')] ?s2 rfl ?s3 ?s7 ?s4 ?s5 ?s6 ?_
      case s1 => rfl
      case s2 => rfl
      case s3 => exact fun j u hj => new_cells w3 _ _ j u hj
      case s7 => exact three_ones
      case s4 => unfold maxLen; omega
      case s5 => omega
      case s6 => exact Nat.le_trans r1 hbx.size
      intro lv5 w5 hown5 hgr5 _ hat5
      obtain ⟨A5, c5, rfl⟩ := own_slice hown5
      have h5 := (HRB.out.more hbx).grown hgr5 (fun g e => by
        have := HGB.out g e
        have := HLT.out
        have := hbx.size
        omega)
      have hTk := takes_rb 9 (by decide) h5
      have hMu := must_rb 2 (by decide) h5
      clear hown5 hgr5 hat5 r1 r2 r3 r4 hi hz0 hz1 hz2 hbx h5 hlt17
      go_frame
      go_wp2_with fail
      refine hTk.mono ?_
      rintro e w6 ⟨rfl, rfl⟩
      clear hTk
      go_wp2_with fail
      refine hMu.mono ?_
      rintro e w7 ⟨rfl, _, h7⟩
      have HE : Hid (RulesEnd W0 R S w.heap.size res (.returned (.slice A5 (rs.length + 1) c5)) w7) := .inr ⟨HERR.out, ⟨_, _, _, rfl⟩, h7.down (Nat.zero_le _)⟩
      clear hMu h7
      go_wp2
      go_ret
      exact HE.out
    clear hRu
    obtain ⟨Ae, ce, rfl⟩ := hev.form
    obtain ⟨Aw, cw, rfl⟩ := hwv.form
    have HROW := Lib.hid (HROW1.out.fr hfr HRS.out.1 HRS.out.2.1)
    have HGB : Hid (∀ g, (Value.slice A0 rs.length c0).ownBlock = some g → g < w1.heap.size ∧ W0.heap.size ≤ g ∧ g ≠ R ∧ g ≠ S ∧ g < w3.heap.size) := fun g e => by
      have k1 := HROW1.out.lt g e
      have k2 := HROW.out.lt g e
      have k3 := HRS.out
      exact ⟨k1.2, by omega, by omega, by omega, k2.2⟩
    have HR3 := Lib.hid h3
    have HRL : Hid (∀ w', Below w3.heap.size w3 w' → RlP w' R S (w1.heap.size ≤ ·) (r.name, .slice Ae r.expr.length ce, .slice Aw r.cond.length cw) r) := fun w' hb => ⟨rfl, (hev.more hb).toP, (hwv.more hb).toP, hl1, hl2⟩
    have HNF2 : Hid (res = match Zq.overP q3 with
      | .error e => .error e
      | .ok true => .ok (rs ++ [r])
      | .ok false => match Zq.past [59] q3 with
        | .error e => .error e
        | .ok l3 => Zq.rulesP n (rs ++ [r]) l3) := by unfold Hid; rw [HNF.out, hr]
    clear hfr h3 hev hwv hl1 hl2 hr e16
    obtain ⟨r1, us, r2, r3, r4⟩ := HROW.out
    obtain ⟨i0, hi, hz0, hz1, hz2⟩ := info_parts infoRule
    have hbx := box_below w3 (.cells #[.string (strOf r.name), (.slice Ae r.expr.length ce), (.slice Aw r.cond.length cw)] 35)
    have hlt17 := H16.out
    repeat ((fail_if_success (with_reducible show wpList _ _ _ (⟨some 21, _, _, _, _, _⟩ :: _) _ _)); first | go_values | go_skip | go_guarded | go_step | go_upon | go_back | go_simp)
    with_reducible refine wpList_append_own_at _ rfl (.tmp 17) (.tmp 20) 22 rfl w.heap.size 35 i0 (.agg #[.string ByteArray.empty, .slice none 0 0, .slice none 0 0]) 3 64 Tryz.underlying22 hi hz0 hz1 hz2 rfl (by decide) _ rs.length (rcells3 us) ?s1 (own_below r3 hbx) ⟨w3.heap.size, 0, none⟩ 1 1 [.string (strOf r.name), (.slice Ae r.expr.length ce), (.slice Aw r.cond.length cw)] ?s2 rfl ?s3 ?s7 ?s4 ?s5 ?s6 ?_
    case s1 => rfl
    case s2 => rfl
    case s3 => exact fun j u hj => new_cells w3 _ _ j u hj
    case s7 => exact three_ones
    case s4 => unfold maxLen; omega
    case s5 => omega
    case s6 => exact Nat.le_trans r1 hbx.size
    intro lv5 w5 hown5 hgr5 _ hat5
    have hrow5 := rowR_more (C := w1.heap.size) (Nat.le_trans r1 hbx.size) r2 (fun i u r e1 e2 => (r4 i u r e1 e2).keep hbx.size (fun b hk k1 _ _ => ⟨hk, hbx.block b k1⟩)) HLT.out (fun b e => (HGB.out b e).1) (HRL.out _ hbx) hown5 hgr5 hat5
    have h5 := (HR3.out.more hbx).grown hgr5 (fun g e => by
      have := HGB.out g e
      have := hbx.size
      omega)
    obtain ⟨A5, c5, rfl⟩ := own_slice hown5
    have hTk := takes_ro HA.out 9 (by decide) h5
    have HROW5 := Lib.hid hrow5
    clear hown5 hgr5 hat5 r1 r2 r3 r4 hi hz0 hz1 hz2 hbx h5 hrow5 hlt17
    go_frame
    go_wp2_with fail
    refine hTk.mono ?_
    rintro e w6 ⟨hfr, hh⟩
    clear hTk
    have HROW6 := Lib.hid (HROW5.out.fr hfr HRS.out.1 HRS.out.2.1)
    clear hfr
    rcases hh with ⟨y, q4, hy, hky, rfl, h6⟩ | ⟨y, q4, hy, hky, rfl, h6⟩ | ⟨hy, rfl, h6⟩
    · have HQ : Hid (RsRel W0 R S w.heap.size res (.slice A5 (rs.length + 1) c5) w6) := by
        refine ⟨rs ++ [r], q4, n, HROW6.out, h6.down (Nat.zero_le _), by have := HM16.out; simp; omega, by have := HN.out; simp; omega, ?_⟩
        rw [HNF2.out, over_some hy, decide_eq_false (fun e => by have := (fin_iff hy).1 e; omega)]
        simp only [past_here (s := [59]) (n := 9) (by decide) ⟨y, hy, hky⟩]
      clear h6 hy hky
      go_wp2
      go_roundw
      case rel => exact HQ.out
      case measure => have := HM16.out; simp [rlen]; omega
    · have hMu := must_ro HA.out 2 (by decide) (h6.ok hy)
      have HY := Lib.hid hy
      have HKY : Hid (Zq.kOf y ≠ 9) := hky
      clear h6 hy hky
      go_wp2_with fail
      refine hMu.mono ?_
      rintro e w7 ⟨rfl, hfr, ⟨q5, ⟨y', hy', hk'⟩, h7⟩ | ⟨hq, h7⟩⟩
      · have HE : Hid (RulesEnd W0 R S w.heap.size res (.returned (.slice A5 (rs.length + 1) c5)) w7) := .inl ⟨rs ++ [r], _, q5, by rw [HNF2.out, over_some hy', decide_eq_true ((fin_iff hy').2 hk')], rfl, HROW6.out.fr hfr HRS.out.1 HRS.out.2.1, by have := HM16.out; simp; omega, h7.down (Nat.zero_le _)⟩
        clear hMu h7 hfr hy' hk'
        go_wp2
        go_ret
        exact HE.out
      · have HE : Hid (RulesEnd W0 R S w.heap.size res (.returned (.slice A5 (rs.length + 1) c5)) w7) := by
          have hp : Zq.past [59] q3 = .error 111 := past_not (n := 9) (by decide) (fun q' ⟨y', h1, h2⟩ => by
            rw [HY.out] at h1
            simp only [Option.some.injEq, Prod.mk.injEq] at h1
            obtain ⟨rfl, _⟩ := h1
            exact HKY.out h2)
          refine .inr ⟨⟨111, ?_⟩, ⟨_, _, _, rfl⟩, h7.down (Nat.zero_le _)⟩
          rw [HNF2.out, over_some HY.out, decide_eq_false (fun e => hq q4 ⟨y, HY.out, (fin_iff HY.out).1 e⟩)]
          simp only [hp]
        clear hMu h7 hfr hq
        go_wp2
        go_ret
        exact HE.out
    · have hMu := must_rb 2 (by decide) h6
      have HERR : Hid (∃ er, res = .error er) := ⟨111, by rw [HNF2.out, over_none hy]⟩
      clear h6 hy
      go_wp2_with fail
      refine hMu.mono ?_
      rintro e w7 ⟨rfl, _, h7⟩
      have HE : Hid (RulesEnd W0 R S w.heap.size res (.returned (.slice A5 (rs.length + 1) c5)) w7) := .inr ⟨HERR.out, ⟨_, _, _, rfl⟩, h7.down (Nat.zero_le _)⟩
      clear hMu h7
      go_wp2
      go_ret
      exact HE.out
end
end Go.Proofs.YthhlmalpelgpeaaGreatDoor

/-
  Rules, plain: a text read step by step.
-/
namespace Go.Proofs.YthhlmalpelgpeaaGreatDoor.Zq
theorem drop_cons {S : List Nat} {k : Nat} (h : k < S.length) : S.drop k = S.getD k 0 :: S.drop (k + 1) := by
  rw [List.drop_eq_getElem_cons h, List.getD_eq_getElem?_getD, List.getElem?_eq_getElem h]
  rfl
/-- What was read of a text up to a place. -/
def TextAt (S : List Nat) (i k : Nat) (acc : List Nat) : Prop := textP (S.drop i) = (textP (S.drop k)).map fun x => (acc ++ x.1, x.2)
theorem textAt_start (S : List Nat) (i : Nat) : TextAt S i i [] := by
  unfold TextAt
  cases textP (S.drop i) <;> rfl
section
variable {S : List Nat} {i k : Nat} {acc : List Nat} {c : Nat}
theorem TextAt.over (h : TextAt S i k acc) (hk : S.length ≤ k) : textP (S.drop i) = none := by
  rw [h, List.drop_eq_nil_of_le hk]; rfl
theorem TextAt.bad (h : TextAt S i k acc) (hk : k < S.length) (hc : S.getD k 0 = c) (hb : ¬ (32 ≤ c ∧ c ≤ 126)) : textP (S.drop i) = none := by
  rw [h, drop_cons hk, hc, textP_cons, if_neg hb]; rfl
theorem TextAt.ends (h : TextAt S i k acc) (hk : k < S.length) (hc : S.getD k 0 = 39) : textP (S.drop i) = some (acc, S.drop (k + 1)) := by
  rw [h, drop_cons hk, hc, textP_cons, if_pos (by decide), if_pos rfl]; simp
theorem TextAt.step (h : TextAt S i k acc) (hk : k < S.length) (hc : S.getD k 0 = c) (hb : 32 ≤ c ∧ c ≤ 126) (h1 : c ≠ 39) (h2 : c ≠ 92) : TextAt S i (k + 1) (acc ++ [c]) := by
  unfold TextAt at h ⊢
  rw [h, drop_cons hk, hc, textP_cons, if_pos hb, if_neg h1, if_neg h2]
  cases textP (S.drop (k + 1)) <;> simp
theorem TextAt.esc (h : TextAt S i k acc) (hk : k + 1 < S.length) (hc : S.getD k 0 = 92) {e : Nat} (he : S.getD (k + 1) 0 = e) (h1 : e = 39 ∨ e = 92) : TextAt S i (k + 2) (acc ++ [e]) := by
  unfold TextAt at h ⊢
  rw [h, drop_cons (by omega), hc, textP_cons, if_pos (by decide), if_neg (by decide), if_pos rfl, drop_cons hk, he]
  simp only
  rw [if_pos h1]
  cases textP (S.drop (k + 2)) <;> simp
theorem TextAt.escBad (h : TextAt S i k acc) (hk : k < S.length) (hc : S.getD k 0 = 92) (hb : S.length ≤ k + 1 ∨ ¬ (S.getD (k + 1) 0 = 39 ∨ S.getD (k + 1) 0 = 92)) : textP (S.drop i) = none := by
  rw [h, drop_cons hk, hc, textP_cons, if_pos (by decide), if_neg (by decide), if_pos rfl]
  by_cases hk1 : k + 1 < S.length
  · rw [drop_cons hk1]
    simp only
    rw [if_neg (by rcases hb with h | h; omega; exact h)]
    rfl
  · rw [List.drop_eq_nil_of_le (by omega)]
    rfl
end
end Go.Proofs.YthhlmalpelgpeaaGreatDoor.Zq
