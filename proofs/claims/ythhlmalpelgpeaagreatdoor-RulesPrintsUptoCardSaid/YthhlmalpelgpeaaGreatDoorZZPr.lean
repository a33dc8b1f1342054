/-
  The document's Print: an expression's nodes, all rules.
-/
import Derived.Test.YthhlmalpelgpeaaGreatDoorZZNa
namespace Go.Proofs.YthhlmalpelgpeaaGreatDoor
open Go.RowKit

set_option maxHeartbeats 1000000 in
set_option maxRecDepth 100000 in
theorem refWritten_any {l : List Zq.Nd} (hl : NumOk l) {ok : Nat → Prop} (q : List Nat) (A A2 : Option Addr) (c n c2 m : Nat) (w : World) (hq : ArgIs w A c q) (hn : q.length = n) (hN : NsE w ok (.slice A2 m c2) l) (hm : l.length = m) :
    Calls Tryz.prog 19 #[.slice A n c, .slice A2 m c2] w (BsEnd q (Zq.written l) w) := by
  have hm63 : m ≤ 9223372036854775807 := by
    obtain ⟨_, _, e, h1, h2, _⟩ := hN
    injection e with _ e2 e3
    omega
  by_cases h0 : m = 0
  · subst h0
    have HE : Hid (BsEnd q (Zq.written l) w (.returned (.slice A n c)) w) := ⟨Below.refl _ _, A, c, q, by rw [hn], hq, by
      have : l = [] := List.length_eq_zero_iff.1 hm
      subst this
      exact Puts.nil q⟩
    clear hl hq hn hN hm hm63
    go_enter Tryz.func19, Tryz.ntmps19
    go_wp2
    go_ret
    exact HE.out
  · have HW : Hid (Zq.node l 64 (m - 1) = Zq.written l) := by
      unfold Hid Zq.written
      rw [if_neg (by intro e; rw [e] at hm; exact h0 hm.symm), hm]
    obtain ⟨k, hk⟩ : ∃ k, m - 1 = k := ⟨_, rfl⟩
    have g1 : ((m : Int) == 0) = false := beq_false_of_ne (by omega)
    have g1' : decide ((m : Int) = 0) = false := decide_eq_false (by omega)
    have hsub : IntKind.i64.wrap ((m : Int) - 1) = (k : Int) := by rw [IntKind.wrap_i64]; omega
    have hC := node_top hl k q A A2 c n c2 m w (by omega) hq hn hN hm
    rw [← hk, HW.out] at hC
    rw [hk] at hC
    clear hl hq hn hN hm hk h0
    go_enter Tryz.func19, Tryz.ntmps19
    go_wp2_with fail
    refine hC.mono ?_
    intro e w1 hh
    obtain ⟨hb1, A1, c1, q1, rfl, hq1, hp1⟩ := BsEnd.out hh
    have HE : Hid (BsEnd q (Zq.written l) w (.returned (.slice A1 q1.length c1)) w1) := hh
    clear hC hb1 hq1 hp1 hh
    go_wp2
    go_ret
    exact HE.out
theorem Puts.fits {X q : List Nat} (h : Puts [] X q) (hq : q.length ≤ 4096) : q = X ∧ X.length ≤ 4096 := by
  unfold Puts at h
  rw [List.nil_append] at h
  split at h
  · exact ⟨h, by assumption⟩
  · omega
theorem Puts.not {X q : List Nat} (h : Puts [] X q) (hq : 4096 < q.length) : 4096 < X.length := by
  unfold Puts at h
  rw [List.nil_append] at h
  split at h
  · subst h; exact hq
  · omega
theorem print_not {rs : List Zq.Rl} {k : Nat} (hk : k ≤ rs.length) (h : 4096 < (Zq.whole (rs.take k)).length) : Zq.print rs = [] := by
  obtain ⟨X, hX⟩ := whole_part rs (rs.length - k) k (by omega)
  unfold Zq.print
  rw [if_pos (by rw [hX, List.length_append]; omega)]
theorem print_all {rs : List Zq.Rl} (h : (Zq.whole rs).length ≤ 4096) : Zq.print rs = Zq.whole rs := by
  unfold Zq.print
  rw [if_neg (by omega)]
theorem RsE.three {w : World} {ok : Nat → Prop} {A : Option Addr} {n c : Nat} {rs : List Zq.Rl} (h : RsE w ok (.slice A n c) rs) {i : Nat} (hi : i < rs.length) :
    ∃ b off nm ex cd A1 c1 A2 c2, A = some ⟨b, off, none⟩ ∧ rs[i]? = some ⟨nm, ex, cd⟩ ∧ (∀ x ∈ nm, x < 256) ∧ NsE w ok (.slice A1 ex.length c1) ex ∧ NsE w ok (.slice A2 cd.length c2) cd ∧
      ∀ W, Below w.heap.size w W → W.cell? ⟨b, off + i * 3, none⟩ = some (.string (strOf nm)) ∧ W.cell? ⟨b, off + i * 3 + 1, none⟩ = some (.slice A1 ex.length c1) ∧ W.cell? ⟨b, off + i * 3 + 2, none⟩ = some (.slice A2 cd.length c2) := by
  obtain ⟨b, off, r, A1, c1, A2, c2, e, hb, hbw, hr, hrl, s0, s1, s2⟩ := h.elem hi
  obtain ⟨_, h1, h2, h3⟩ := hrl
  exact ⟨b, off, r.name, r.expr, r.cond, A1, c1, A2, c2, e, hr, h1, h2, h3, fun W hW => ⟨(World.cell?_of_block (a := ⟨b, _, none⟩) (hW.block b hbw)).trans s0, (World.cell?_of_block (a := ⟨b, _, none⟩) (hW.block b hbw)).trans s1, (World.cell?_of_block (a := ⟨b, _, none⟩) (hW.block b hbw)).trans s2⟩⟩
def PrRel (rs : List Zq.Rl) (w : World) (bv i : Value) (wr : World) : Prop :=
  ∃ (k : Nat) (q : List Nat) (A : Option Addr) (c : Nat), bv = .slice A q.length c ∧ i = .int .i64 k ∧ k ≤ rs.length ∧ ArgIs wr A c q ∧ Puts [] (Zq.whole (rs.take k)) q ∧ Below w.heap.size w wr
def SepEnd (q : List Nat) (k : Nat) (wr : World) (v : Value) (wx : World) : Prop :=
  ∃ (q1 : List Nat) (A : Option Addr) (c : Nat), v = .slice A q1.length c ∧ ArgIs wx A c q1 ∧ Puts q (if k = 0 then [] else [59, 32]) q1 ∧ Below wr.heap.size wr wx
set_option maxHeartbeats 1000000 in
set_option maxRecDepth 100000 in
theorem refPrint_any {ok : Nat → Prop} {w : World} {v : Value} {rs : List Zq.Rl} (hR : RsE w ok v rs) (hnum : ∀ r ∈ rs, NumOk r.expr ∧ NumOk r.cond) :
    Calls Tryz.prog 11 #[v] w fun e w' => Below w.heap.size w w' ∧ e = .returned (.string (strOf (Zq.print rs))) := by
  obtain ⟨A0, c0, rfl⟩ := hR.form
  obtain ⟨n, en⟩ : ∃ n, rs.length = n := ⟨_, rfl⟩
  have hn63 : n ≤ 9223372036854775807 := by
    obtain ⟨_, _, e, h1, h2, _⟩ := hR
    injection e with _ e2 e3
    omega
  rw [en]
  rw [en] at hR
  have HN := Lib.hid en
  have HR := Lib.hid hR
  have HNUM := Lib.hid hnum
  have H0 : Hid (PrRel rs w (.slice none 0 0) (.int .i64 (0 : Nat)) w) := ⟨0, [], none, 0, rfl, rfl, Nat.zero_le _, ⟨Nat.le_refl 0, by decide, by simp, fun h => absurd h (by simp)⟩, by rw [List.take_zero]; exact Puts.nil [], Below.refl _ _⟩
  obtain ⟨res, eres⟩ : ∃ res, Zq.print rs = res := ⟨_, rfl⟩
  rw [eres]
  have HRES := Lib.hid eres
  clear hR hnum eres en
  go_enter Tryz.func11, Tryz.ntmps11
  go_wp2_with fail
  go_loopw [3, 4] (fun bv i wr => PrRel rs w bv i wr) (fun _ i _ => n - (intOf i).toNat)
  case atStart => exact H0.out
  case round =>
    obtain ⟨k, q, A1, c1, rfl, rfl, hk, hq, hp, hb⟩ := hrel
    have HK : Hid (k ≤ rs.length) := hk
    rw [HN.out] at hk
    obtain ⟨lq, elq⟩ : ∃ lq, q.length = lq := ⟨_, rfl⟩
    have hlq63 : lq ≤ 9223372036854775807 := by rw [← elq]; exact Nat.le_trans hq.1 hq.2.1
    have HQ := Lib.hid hq
    have HP := Lib.hid hp
    have HB := Lib.hid hb
    have HLQ := Lib.hid elq
    rw [elq]
    by_cases h4 : lq ≤ 4096
    · have g4 : decide ((lq : Int) ≤ 4096) = true := decide_eq_true (by omega)
      have g4' : decide ((4096 : Int) < (lq : Int)) = false := decide_eq_false (by omega)
      by_cases hlt : k < n
      · have d1 : decide ((k : Int) < (n : Int)) = true := decide_eq_true (by omega)
        obtain ⟨b, off, nm, ex, cd, A3, c3, A4, c4, rfl, hr, hnm, hex, hcd, hcell⟩ := (HR.out.more hb).three (i := k) (by rw [HN.out]; exact hlt)
        have hnn := HNUM.out _ (List.mem_of_getElem? hr)
        obtain ⟨ne, ene⟩ : ∃ m, ex.length = m := ⟨_, rfl⟩
        obtain ⟨nc, enc⟩ : ∃ m, cd.length = m := ⟨_, rfl⟩
        rw [ene] at hex hcell
        rw [enc] at hcd hcell
        have HTe : Hid (∀ (A5 : Option Addr) (c5 : Nat) (q5 : List Nat) (W : World), Below wr.heap.size wr W → ArgIs W A5 c5 q5 → Calls Tryz.prog 19 #[.slice A5 q5.length c5, .slice A3 ne c3] W (BsEnd q5 (Zq.written ex) wr)) := fun A5 c5 q5 W h3 ha => (refWritten_any hnn.1 q5 A5 A3 c5 _ c3 ne W ha rfl (hex.more h3) ene).mono fun e w' h => h.from h3
        have HTc : Hid (∀ (A5 : Option Addr) (c5 : Nat) (q5 : List Nat) (W : World), Below wr.heap.size wr W → ArgIs W A5 c5 q5 → Calls Tryz.prog 19 #[.slice A5 q5.length c5, .slice A4 nc c4] W (BsEnd q5 (Zq.written cd) wr)) := fun A5 c5 q5 W h3 ha => (refWritten_any hnn.2 q5 A5 A4 c5 _ c4 nc W ha rfl (hcd.more h3) enc).mono fun e w' h => h.from h3
        have HCELL := Lib.hid hcell
        have HPUT : Hid (∀ (s : ByteArray) (A5 : Option Addr) (c5 : Nat) (q5 : List Nat) (W : World), Below wr.heap.size wr W → ArgIs W A5 c5 q5 → Calls Tryz.prog 18 #[.slice A5 q5.length c5, .string s] W (BsEnd q5 (numsOf s) wr)) := fun s A5 c5 q5 W h3 ha => (put_any q5 s A5 c5 _ W ha rfl).mono fun e w' h => h.from h3
        have HXT : Hid (Zq.whole (rs.take (k + 1)) = Zq.whole (rs.take k) ++ ((if k = 0 then [] else [59, 32]) ++ Zq.ruleW ⟨nm, ex, cd⟩)) := whole_take hr
        have HNC := Lib.hid enc
        obtain ⟨NM, eNM, HNM⟩ := str_facts nm
        have HNMS : Hid (numsOf NM = nm) := by unfold Hid; rw [← eNM]; exact numsOf_strOf hnm
        rw [eNM] at hcell
        have HCELL := Lib.hid hcell
        obtain ⟨z0, z1, z2⟩ := hcell wr (Below.refl _ _)
        obtain ⟨KZ, eKZ⟩ : ∃ KZ, decide (0 < k) = KZ := ⟨_, rfl⟩
        have HKZ := Lib.hid eKZ
        have hnc63 : nc ≤ 9223372036854775807 := by
          obtain ⟨_, _, e, h1, h2, _⟩ := hcd
          injection e with _ e2 e3
          omega
        clear hb hq hp hr hnm hex hcd hcell hnn ene enc eNM
        go_upto_if 17 with (fail)
        go_cut [3] (fun v wx => BsEnd q (if k = 0 then [] else [59, 32]) wr (.returned v) wx)
        case first =>
          cases KZ with
          | false =>
            have HZ : Hid (BsEnd q (if k = 0 then [] else [59, 32]) wr (.returned (.slice A1 lq c1)) wr) := ⟨Below.refl _ _, A1, c1, q, by rw [HLQ.out], HQ.out, by rw [if_pos (by have := of_decide_eq_false HKZ.out; omega)]; exact Puts.nil q⟩
            go_wp2_with fail
            go_meet
            exact HZ.out
          | true =>
            have hC := HPUT.out { data := #[59, 32] } A1 c1 q wr (Below.refl _ _) HQ.out
            rw [HLQ.out] at hC
            go_wp2_with fail
            refine hC.mono ?_
            intro e w1 hh
            obtain ⟨hb1, A5, c5, q1, rfl, hq1, hp1⟩ := BsEnd.out hh
            have HZ : Hid (BsEnd q (if k = 0 then [] else [59, 32]) wr (.returned (.slice A5 q1.length c5)) w1) := hh.same (by rw [if_neg (by have := of_decide_eq_true HKZ.out; omega)]; rfl)
            clear hC hb1 hq1 hp1 hh
            go_wp2_with fail
            go_meet
            exact HZ.out
        case rest =>
        obtain ⟨hb1, A5, c5, q1, e5, hq1, hp1⟩ := BsEnd.out hcut
        injection e5 with e5
        subst e5
        have HB1 := Lib.hid hb1
        have HQ1 := Lib.hid hq1
        have HP1 := Lib.hid hp1
        obtain ⟨z0, z1, z2⟩ := HCELL.out _ hb1
        clear hcut hb1 hq1 hp1 eKZ HKZ
        rcases HNM with ⟨n1, n2, n3⟩ | ⟨n1, n2, n3⟩
        · have hP2 := HPUT.out { data := #[100, 101, 110, 121, 32, 119, 104, 101, 110, 32] } A5 c5 q1 _ (HB1.out).drew (HQ1.out).drew
          rw [show numsOf { data := #[100, 101, 110, 121, 32, 119, 104, 101, 110, 32] } = [100, 101, 110, 121, 32, 119, 104, 101, 110, 32] from rfl] at hP2
          go_upto_region 8 with (fail)
          go_region_with (first
            | (go_at_call 18; with_reducible refine hP2.mono ?_; intro e w2a hh; obtain ⟨hb2a, A2a, c2a, q2a, rfl, hq2a, hp2a⟩ := BsEnd.out hh; have hT2 := HTc.out A2a c2a q2a w2a hb2a hq2a; obtain ⟨y0, y1, y2⟩ := HCELL.out w2a hb2a)
            | (go_at_call 19; with_reducible refine hT2.mono ?_; intro e w2b hh; obtain ⟨hb2b, A2b, c2b, q2b, rfl, hq2b, hp2b⟩ := BsEnd.out hh))
          all_goals
            have HE : Hid (ArgIs w2b A2b c2b q2b ∧ Puts [] (Zq.whole (rs.take (k + 1))) q2b ∧ Below w.heap.size w w2b) := ⟨hq2b, by
              rw [HXT.out]
              refine HP.out.trans (HP1.out.trans ((hp2a.trans hp2b).same (.inl ?_)))
              rw [n3.out]
              rfl, below_onZ HB.out hb2b⟩
            clear hP2 hT2 hb2a hq2a hp2a hb2b hq2b hp2b hh y0 y1 y2 z0 z1 z2
            go_wp2
            go_roundw
            case rel => exact ⟨k + 1, _, _, _, rfl, by go_num, by rw [HN.out]; omega, HE.out.1, HE.out.2.1, HE.out.2.2⟩
            case measure => simp [intOf]; omega
        · have hP2 := HPUT.out NM A5 c5 q1 _ (HB1.out).drew (HQ1.out).drew
          rw [HNMS.out] at hP2
          go_upto_region 9 with (fail)
          go_cut [3] (fun v wx => BsEnd q1 (nm ++ 32 :: 61 :: 32 :: Zq.written ex) wr (.returned v) wx)
          case first =>
            go_region_with (first
              | (go_at_call 18; with_reducible refine hP2.mono ?_; intro e w2a hh; obtain ⟨hb2a, A2a, c2a, q2a, rfl, hq2a, hp2a⟩ := BsEnd.out hh; have hP3 := HPUT.out { data := #[32, 61, 32] } A2a c2a q2a w2a hb2a hq2a; obtain ⟨y0, y1, y2⟩ := HCELL.out w2a hb2a)
              | (go_at_call 18; with_reducible refine hP3.mono ?_; intro e w3a hh; obtain ⟨hb3a, A3a, c3a, q3a, rfl, hq3a, hp3a⟩ := BsEnd.out hh; have hT3 := HTe.out A3a c3a q3a w3a hb3a hq3a; obtain ⟨x0, x1, x2⟩ := HCELL.out w3a hb3a)
              | (go_at_call 19; with_reducible refine hT3.mono ?_; intro e w2b hh; obtain ⟨hb2b, A2b, c2b, q2b, rfl, hq2b, hp2b⟩ := BsEnd.out hh))
            all_goals
              have HZ : Hid (BsEnd q1 (nm ++ 32 :: 61 :: 32 :: Zq.written ex) wr (.returned (.slice A2b q2b.length c2b)) w2b) := ⟨hb2b, A2b, c2b, q2b, rfl, hq2b, (hp2a.trans (hp3a.trans hp2b)).same (.inl rfl)⟩
              clear hP2 hP3 hT3 hb2a hq2a hp2a hb3a hq3a hp3a hb2b hq2b hp2b hh y0 y1 y2 x0 x1 x2 z0 z1 z2
              go_wp2_with fail
              go_meet
              exact HZ.out
          case rest =>
          obtain ⟨hb6, A6, c6, q6, e6, hq6, hp6⟩ := BsEnd.out hcut
          injection e6 with e6
          subst e6
          have HB6 := Lib.hid hb6
          have HQ6 := Lib.hid hq6
          have HP6 := Lib.hid hp6
          clear z0 z1 z2 hP2
          obtain ⟨z0, z1, z2⟩ := HCELL.out _ hb6
          clear hcut hb6 hq6 hp6
          have hnamed : nm ≠ [] := n3.out
          have HRW : Hid (Zq.ruleW ⟨nm, ex, cd⟩ = nm ++ 32 :: 61 :: 32 :: Zq.written ex ++ (if cd = [] then [] else 32 :: Zq.wWhen ++ 32 :: Zq.written cd)) := by unfold Hid Zq.ruleW; rw [if_neg hnamed]
          clear hnamed
          by_cases hc0 : nc = 0
          · have HE : Hid (ArgIs _ A6 c6 q6 ∧ Puts [] (Zq.whole (rs.take (k + 1))) q6 ∧ Below w.heap.size w _) := ⟨HQ6.out, by
              rw [HXT.out, HRW.out, if_pos (List.length_eq_zero_iff.1 (HNC.out.trans hc0)), List.append_nil]
              exact HP.out.trans (HP1.out.trans HP6.out), below_onZ HB.out HB6.out⟩
            have e0 : decide (0 < nc) = false := decide_eq_false (by omega)
            have e0' : decide ((0 : Int) < (nc : Int)) = false := decide_eq_false (by omega)
            go_wp2
            go_roundw
            case rel => exact ⟨k + 1, _, _, _, rfl, by go_num, by rw [HN.out]; omega, HE.out.1, HE.out.2.1, HE.out.2.2⟩
            case measure => simp [intOf]; omega
          · have e0 : decide (0 < nc) = true := decide_eq_true (by omega)
            have e0' : decide ((0 : Int) < (nc : Int)) = true := decide_eq_true (by omega)
            have hP4 := HPUT.out { data := #[32, 119, 104, 101, 110, 32] } A6 c6 q6 _ (HB6.out).drew (HQ6.out).drew
            rw [show numsOf { data := #[32, 119, 104, 101, 110, 32] } = [32, 119, 104, 101, 110, 32] from rfl] at hP4
            go_upto_region 11 with (fail)
            go_region_with (first
              | (go_at_call 18; with_reducible refine hP4.mono ?_; intro e w4a hh; obtain ⟨hb4a, A4a, c4a, q4a, rfl, hq4a, hp4a⟩ := BsEnd.out hh; have hT4 := HTc.out A4a c4a q4a w4a hb4a hq4a; obtain ⟨y0, y1, y2⟩ := HCELL.out w4a hb4a)
              | (go_at_call 19; with_reducible refine hT4.mono ?_; intro e w4b hh; obtain ⟨hb4b, A4b, c4b, q4b, rfl, hq4b, hp4b⟩ := BsEnd.out hh))
            all_goals
              have HE : Hid (ArgIs w4b A4b c4b q4b ∧ Puts [] (Zq.whole (rs.take (k + 1))) q4b ∧ Below w.heap.size w w4b) := ⟨hq4b, by
                rw [HXT.out, HRW.out, if_neg (fun h => hc0 (HNC.out.symm.trans (List.length_eq_zero_iff.2 h)))]
                exact HP.out.trans (HP1.out.trans (HP6.out.trans ((hp4a.trans hp4b).same (.inl rfl)))), below_onZ HB.out hb4b⟩
              clear hP4 hT4 hb4a hq4a hp4a hb4b hq4b hp4b hh y0 y1 y2 z0 z1 z2
              go_wp2
              go_roundw
              case rel => exact ⟨k + 1, _, _, _, rfl, by go_num, by rw [HN.out]; omega, HE.out.1, HE.out.2.1, HE.out.2.2⟩
              case measure => simp [intOf]; omega
      · obtain rfl : k = n := by omega
        have hd : decide ((k : Int) < (k : Int)) = false := by simp
        have HE : Hid (strOf q = strOf res) := by
          unfold Hid
          obtain ⟨e1, e2⟩ := Puts.fits hp (by rw [elq]; exact h4)
          rw [List.take_of_length_le (by rw [HN.out]; exact Nat.le_refl _)] at e1 e2
          rw [← HRES.out, print_all e2, e1]
        have hcv := conv_str hq
        rw [elq, HE.out] at hcv
        clear hb hq hp elq
        go_wp2
        go_ret
        exact ⟨HB.out, rfl⟩
    · have g4 : decide ((lq : Int) ≤ 4096) = false := decide_eq_false (by omega)
      have g4' : decide ((4096 : Int) < (lq : Int)) = true := decide_eq_true (by omega)
      have HE : Hid (res = []) := by
        unfold Hid
        rw [← HRES.out]
        exact print_not HK.out (Puts.not hp (by omega))
      by_cases hlt : k < n
      · have d1 : decide ((k : Int) < (n : Int)) = true := decide_eq_true (by omega)
        clear hb hq hp elq
        go_wp2
        go_ret
        exact ⟨HB.out, by rw [HE.out]; rfl⟩
      · have d1 : decide ((k : Int) < (n : Int)) = false := decide_eq_false (by omega)
        clear hb hq hp elq
        go_wp2
        go_ret
        exact ⟨HB.out, by rw [HE.out]; rfl⟩
end Go.Proofs.YthhlmalpelgpeaaGreatDoor
