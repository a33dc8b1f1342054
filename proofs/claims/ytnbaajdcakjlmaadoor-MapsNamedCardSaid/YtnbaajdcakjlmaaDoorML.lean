/-
  applies, and Run: rules that are done one by one.
-/
import Derived.Test.YtnbaajdcakjlmaaDoorMK
import Derived.Test.YtnbaajdcakjlmaaDoorM05
import Derived.Test.YtnbaajdcakjlmaaDoorM01
namespace Go.Proofs.YtnbaajdcakjlmaaDoor
open Go.RowKit

abbrev rbox (r : Zq.Rl) (E1 : Option Addr) (ec : Nat) (E2 : Option Addr) (cc : Nat) : Obj := .cells #[.string (strOf r.name), .slice E1 r.expr.length ec, .slice E2 r.cond.length cc] 42
set_option maxHeartbeats 2000000 in
set_option maxRecDepth 100000 in
theorem appliesM_any (S : Mq.Same) {ok okv : Nat → Prop} (r : Zq.Rl) (E1 E2 : Option Addr) (ec cc : Nat) (v : Jq.J) (V1 V2 : Option Addr) (e1 e2 : Nat) (w : World) (hC : NsE w ok (.slice E2 r.cond.length cc) r.cond) (hn : r.cond.length ≤ 300) (hO : NodesOk r.cond)
    (hV : IsJ w okv (jv v.kind v.bool v.int (strOf v.text) (.slice V1 v.names.length e1) (.slice V2 v.list.length e2)) v) :
    Calls Tryd.prog 24 #[.agg #[.string (strOf r.name), .slice E1 r.expr.length ec, .slice E2 r.cond.length cc], jv v.kind v.bool v.int (strOf v.text) (.slice V1 v.names.length e1) (.slice V2 v.list.length e2)] w fun e w' => Below w.heap.size w w' ∧ e = .returned (.bool (Mq.applies S v r)) := by
  obtain ⟨W, eW⟩ : ∃ W, W = (w.alloc (rbox r E1 ec E2 cc)).alloc (jbox v V1 e1 V2 e2) := ⟨_, rfl⟩
  have hbW : Below w.heap.size w W := by rw [eW]; exact below_new2 _ _ _
  obtain ⟨X, eX⟩ : ∃ X, Mq.applies S v r = X := ⟨_, rfl⟩
  rw [eX]
  unfold Mq.applies at eX
  by_cases h0 : r.cond = []
  · rw [if_pos h0] at eX
    have dz : (((r.cond.length : Nat) : Int) == 0) = true := by rw [h0]; rfl
    have HB : Hid (Below w.heap.size w W) := hbW
    rw [eW] at HB
    rcases str_empty r.name with ⟨q1, q2, q3⟩ | ⟨q1, q2, q3⟩
    · have HQ : Hid (false = X) := by unfold Hid; rw [← eX, q3]; rfl
      clear eX eW hbW hC hn hO hV h0 q3
      go_enter Tryd.func24, Tryd.ntmps24
      go_wp2
      go_ret
      exact ⟨HB.out, congrArg (fun b => Ending.returned (.bool b)) HQ.out⟩
    · have HQ : Hid (true = X) := by unfold Hid; rw [← eX, decide_eq_false q3]; rfl
      clear eX eW hbW hC hn hO hV h0 q3
      go_enter Tryd.func24, Tryd.ntmps24
      go_wp2
      go_ret
      exact ⟨HB.out, congrArg (fun b => Ending.returned (.bool b)) HQ.out⟩
  · rw [if_neg h0] at eX
    have dz : (((r.cond.length : Nat) : Int) == 0) = false := by
      have := List.length_pos_iff.2 h0
      exact beq_false_of_ne (by omega)
    have hD := valueM_any S r.cond E2 r.cond.length cc v V1 V2 e1 e2 W (hC.more hbW) rfl hn hO (hV.on hbW)
    obtain ⟨x, ex⟩ : ∃ x, Mq.valueV S v r.cond = x := ⟨_, rfl⟩
    rw [ex] at hD eX
    have HB := Lib.hid hbW
    have HW := Lib.hid eW
    rw [eW] at hD
    clear eW hbW hC hn hO hV h0 ex
    go_enter Tryd.func24, Tryd.ntmps24
    go_wp2_with fail
    refine hD.mono ?_
    rintro e w1 ⟨u, rfl, hJ, hb1⟩
    clear hD
    rw [← HW.out] at hb1
    obtain ⟨B1, d1, B2, d2, rfl⟩ := hJ.form
    have hE := isTrueM_any x B1 B2 d1 d2 (w1.alloc (jbox x B1 d1 B2 d2))
    rw [eX] at hE
    have HB1 := Lib.hid (below_more HB.out hb1)
    clear hJ hb1 eX
    go_wp2_with fail
    refine hE.mono ?_
    rintro e w2 ⟨hb2, rfl⟩
    have HB2 := Lib.hid (below_more (below_alloc HB1.out _) hb2)
    clear hE hb2
    go_wp2
    go_ret
    exact ⟨HB2.out, rfl⟩

/-- How Run ends. -/
def RunE (p : Jq.J × Int) (w : World) (e : Ending) (w' : World) : Prop := ∃ u, e = .returned (.tuple #[u, .int .i64 p.2]) ∧ IsJ w' (w.heap.size ≤ ·) u p.1 ∧ Below w.heap.size w w'
/-- Rules with few nodes, in their bounds. -/
def RuleM (r : Zq.Rl) : Prop := r.name.length ≤ 140737488355328 ∧ (r.expr.length ≤ 300 ∧ r.cond.length ≤ 300) ∧ NodesOk r.expr ∧ NodesOk r.cond
theorem run_next (S : Mq.Same) (v : Jq.J) {rs : List Zq.Rl} {k : Nat} {r : Zq.Rl} (h : rs[k]? = some r) (o : Mq.Obj) : Mq.run S v o (rs.drop k) = if Mq.applies S v r then (if r.name = [] then none else Mq.run S v (Mq.step S v o r) (rs.drop (k + 1))) else Mq.run S v o (rs.drop (k + 1)) := by
  rw [drop_at h]; rfl
/-- What holds between two rules. -/
def RunSt (S : Mq.Same) (v : Jq.J) (rs : List Zq.Rl) (P B k : Nat) (o : Mq.Obj) (nv lv : Value) (W wr : World) : Prop :=
  Mq.run S v ([], []) rs = Mq.run S v o (rs.drop k) ∧ Lies wr (P + 2) 27 [.int .i64 5, .bool false, .int .i64 0, .string ByteArray.empty, nv, lv] ∧ MRow B o.1 o.2 nv lv wr ∧ o.2.length ≤ k ∧ Below (P + 2) W wr

set_option maxHeartbeats 8000000 in
set_option maxRecDepth 100000 in
theorem runM_any (S : Mq.Same) {ok okv : Nat → Prop} (rs : List Zq.Rl) (A : Option Addr) (n c : Nat) (v : Jq.J) (V1 V2 : Option Addr) (e1 e2 : Nat) (w : World) (hH : Held w) (hR : RsE w ok (.slice A n c) rs) (hn : rs.length = n) (hn3 : n ≤ 300) (hO : ∀ r ∈ rs, RuleM r)
    (hV : IsJ w okv (jv v.kind v.bool v.int (strOf v.text) (.slice V1 v.names.length e1) (.slice V2 v.list.length e2)) v) :
    Calls Tryd.prog 15 #[.slice A n c, jv v.kind v.bool v.int (strOf v.text) (.slice V1 v.names.length e1) (.slice V2 v.list.length e2)] w (RunE (Mq.runV S v rs) w) := by
  obtain ⟨W, eW⟩ : ∃ W, W = ((w.alloc (jbox v V1 e1 V2 e2)).alloc zobjD).alloc (.cells #[.int .i64 5, .bool false, .int .i64 0, .string { data := #[] }, .slice none 0 0, .slice none 0 0] 27) := ⟨_, rfl⟩
  have hbW : Below w.heap.size w W := by rw [eW]; exact (below_new2 _ _ _).alloc (by simp; omega) _
  have hsW : W.heap.size = w.heap.size + 3 := by rw [eW]; simp
  have hlm : Lies W (w.heap.size + 2) 27 [.int .i64 5, .bool false, .int .i64 0, .string ByteArray.empty, .slice none 0 0, .slice none 0 0] := by rw [eW]; exact Lies.new_ (by simp)
  have hl0 : Lies W (w.heap.size + 1) 27 zero6 := by rw [eW]; exact (Lies.new_ (by simp)).alloc _
  have hlv : Lies W w.heap.size 27 [.int .i64 v.kind, .bool v.bool, .int .i64 v.int, .string (strOf v.text), .slice V1 v.names.length e1, .slice V2 v.list.length e2] := by rw [eW]; exact ((Lies.new_ rfl).alloc _).alloc _
  obtain ⟨X, eX⟩ : ∃ X, Mq.runV S v rs = X := ⟨_, rfl⟩
  rw [eX]
  have hst : RunSt S v rs w.heap.size W.heap.size 0 ([], []) (.slice none 0 0) (.slice none 0 0) W W := ⟨rfl, hlm, MRow.nil (Nat.le_refl _), Nat.le_refl _, Below.refl _ _⟩
  have HH : Hid (Held w) := hH
  have HBW := Lib.hid hbW
  have HSW := Lib.hid hsW
  have HL0 := Lib.hid hl0
  have HLV := Lib.hid hlv
  have HW := Lib.hid eW
  have HR := Lib.hid hR
  have HLN := Lib.hid hn
  have HO := Lib.hid hO
  have HV := Lib.hid hV
  have HX := Lib.hid eX
  have HST := Lib.hid hst
  clear hH hbW hsW hlm hl0 hlv eW hR hn hO hV eX hst
  go_enter Tryd.func15, Tryd.ntmps15
  go_upto_region 2 with (fail)
  rw [← HW.out]
  go_wp2_with fail
  go_loopw [14] (fun i wr => ∃ (k : Nat) (o : Mq.Obj) (A1 : Option Addr) (c1 : Nat) (A2 : Option Addr) (c2 : Nat), i = .int .i64 k ∧ k ≤ n ∧ Hid (RunSt S v rs w.heap.size W.heap.size k o (.slice A1 o.1.length c1) (.slice A2 o.2.length c2) W wr)) (fun i _ => n - (intOf i).toNat)
  case atStart => exact ⟨0, ([], []), none, 0, none, 0, rfl, Nat.zero_le _, HST.out⟩
  case round =>
    obtain ⟨k, o, A1, c1, A2, c2, rfl, hk, HS⟩ := hrel
    obtain ⟨hrun, hlm, hrow, hok, hb⟩ := HS.out
    have hsw := HSW.out
    have hbw : Below w.heap.size w wr := HBW.out.trans (hb.mono (by omega))
    by_cases hlt : k < n
    · obtain ⟨bl, off, r, E1, ec, E2, cc, rfl, _, _, hx, hRl, s0, s1, s2⟩ := (HR.out.more hbw).elem (i := k) (by rw [HLN.out]; exact hlt)
      obtain ⟨_, hrt, hNE, hNC⟩ := hRl
      simp only at hNE hNC
      obtain ⟨WN, eWN⟩ : ∃ WN, WN = wr.alloc (rbox r E1 ec E2 cc) := ⟨_, rfl⟩
      have hbN : Below wr.heap.size wr WN := by rw [eWN]; exact below_new _ _
      have hnd : Lies WN wr.heap.size 42 [.string (strOf r.name), .slice E1 r.expr.length ec, .slice E2 r.cond.length cc] := by rw [eWN]; exact Lies.new_ rfl
      have HWN := Lib.hid eWN
      have HB := Lib.hid hb
      have HBN := Lib.hid hbN
      have HND := Lib.hid hnd
      have HXK := Lib.hid hx
      have HBWR := Lib.hid hbw
      have HRO := Lib.hid (HO.out r (List.mem_of_getElem? hx))
      have HNE := Lib.hid hNE
      have HNC := Lib.hid hNC
      have HRT := Lib.hid hrt
      have hwrs := hb.size
      have HWRS := Lib.hid hwrs
      have HNX := Lib.hid (run_next S v hx o)
      clear hb hbN hnd hx eWN hbw hrun hlm hrow hNE hNC hrt
      go_upto_region 5 with (fail)
      rw [← HWN.out]
      clear s0 s1 s2
      obtain ⟨n0, n1, n2⟩ : WN.cell? ⟨wr.heap.size, 0, none⟩ = some (.string (strOf r.name)) ∧ WN.cell? ⟨wr.heap.size, 1, none⟩ = some (.slice E1 r.expr.length ec) ∧ WN.cell? ⟨wr.heap.size, 2, none⟩ = some (.slice E2 r.cond.length cc) := ⟨HND.out.cell 0, HND.out.cell 1, HND.out.cell 2⟩
      have hvN : Lies WN w.heap.size 27 [.int .i64 v.kind, .bool v.bool, .int .i64 v.int, .string (strOf v.text), .slice V1 v.names.length e1, .slice V2 v.list.length e2] := (HLV.out.below HB.out (by omega)).below HBN.out (by omega)
      obtain ⟨⟨v0, v1, v2, v3, v4, v5⟩, _⟩ := hvN.six
      have HVN := Lib.hid hvN
      have hC := appliesM_any S r E1 E2 ec cc v V1 V2 e1 e2 WN (HNC.out.more HBN.out) HRO.out.2.1.2 HRO.out.2.2.2 (HV.out.on (below_more HBWR.out HBN.out))
      clear hvN
      cases happ : Mq.applies S v r with
      | false =>
        rw [happ] at hC
        have HAP := Lib.hid happ
        clear happ
        go_wp2_with fail
        refine hC.mono ?_
        rintro e w2 ⟨hb2, rfl⟩
        have hbr := below_more HBN.out hb2
        have HQ : Hid (∃ (k' : Nat) (o : Mq.Obj) (A1 : Option Addr) (c1 : Nat) (A2 : Option Addr) (c2 : Nat), Value.int .i64 ((k + 1 : Nat) : Int) = .int .i64 k' ∧ k' ≤ n ∧ Hid (RunSt S v rs w.heap.size W.heap.size k' o (.slice A1 o.1.length c1) (.slice A2 o.2.length c2) W w2)) := by
          obtain ⟨hrun, hlm, hrow, hok, hb⟩ := HS.out
          refine ⟨k + 1, o, A1, c1, A2, c2, rfl, hlt, ?_, hlm.below hbr (by have := hlm.lt; omega), hrow.on hbr, by omega, hb.trans (hbr.mono (by omega))⟩
          rw [hrun, HNX.out, HAP.out]; rfl
        clear hC n0 n1 n2 v0 v1 v2 v3 v4 v5 hb2 hbr
        go_wp2
        go_roundw
        case rel => exact HQ.out
        case measure => simp [intOf]; omega
      | true =>
        rw [happ] at hC
        have HAP := Lib.hid happ
        clear happ
        go_wp2_with fail
        refine hC.mono ?_
        rintro e w2 ⟨hb2, rfl⟩
        clear hC n0 n1 n2 v0 v1 v2 v3 v4 v5
        have hbr := below_more HBN.out hb2
        have HBR := Lib.hid hbr
        have hnd2 := HND.out.below hb2 HND.out.lt
        have hv2 := HVN.out.below hb2 HVN.out.lt
        have HV2 := Lib.hid hv2
        obtain ⟨n0, n1, n2⟩ : w2.cell? ⟨wr.heap.size, 0, none⟩ = some (.string (strOf r.name)) ∧ w2.cell? ⟨wr.heap.size, 1, none⟩ = some (.slice E1 r.expr.length ec) ∧ w2.cell? ⟨wr.heap.size, 2, none⟩ = some (.slice E2 r.cond.length cc) := ⟨hnd2.cell 0, hnd2.cell 1, hnd2.cell 2⟩
        have HND2 := Lib.hid hnd2
        have hbw2 := below_more HBWR.out hbr
        have HBW2 := Lib.hid hbw2
        rcases str_empty r.name with ⟨q1, q2, q3⟩ | ⟨q1, q2, q3⟩
        · have hl2 := (HL0.out.below HB.out (by omega)).below hbr (by omega)
          have hlf : Lies (put6 w2 (w.heap.size + 1) (.int .i64 0) (.bool false) (.int .i64 0) (.string { data := #[] }) nilS nilS) (w.heap.size + 1) 27 [.int .i64 0, .bool false, .int .i64 0, .string { data := #[] }, nilS, nilS] := hl2.put6
          have HQ : Hid (RunE X w (.returned (.tuple #[jv 0 false 0 { data := #[] } nilS nilS, .int .i64 130])) (put6 w2 (w.heap.size + 1) (.int .i64 0) (.bool false) (.int .i64 0) (.string { data := #[] }) nilS nilS)) := by
            obtain ⟨hrun, _⟩ := HS.out
            have : Mq.run S v ([], []) rs = none := by rw [hrun, HNX.out, HAP.out, if_pos rfl, if_pos q3]
            have hX : X = (Jq.nullJ, 130) := by rw [← HX.out]; unfold Mq.runV; rw [this]
            rw [hX]
            exact ⟨_, rfl, isJ_null _ _, hbw2.trans (gb_down gb_put6 hbw2.size (Nat.le_succ _))⟩
          obtain ⟨⟨x0, x1, x2, x3, x4, x5⟩, _⟩ := hlf.six
          obtain ⟨⟨r0, r1, r2, r3, r4, r5⟩, f0, f1, f2, f3, f4, f5⟩ := hl2.six
          clear hb2 hbr hnd2 hv2 hbw2 hl2 hlf q3
          go_wp2
          exact bodyPost_ret (by simp [results, Tryd.results15, go_sem, x0, x1, x2, x3, x4, x5]) rfl HQ.out
        · have hD := valueM_any S r.expr E1 r.expr.length ec v V1 V2 e1 e2 w2 (HNE.out.more hbr) rfl HRO.out.2.1.1 HRO.out.2.2.1 (HV.out.on hbw2)
          obtain ⟨x, ex⟩ : ∃ x, Mq.valueV S v r.expr = x := ⟨_, rfl⟩
          rw [ex] at hD
          have HE := Lib.hid ex
          have HN0 := Lib.hid q3
          obtain ⟨⟨v0, v1, v2, v3, v4, v5⟩, _⟩ := hv2.six
          clear ex hb2 hbr hnd2 hv2 hbw2 q3
          go_wp2_with fail
          refine hD.mono ?_
          rintro e w3 ⟨u, rfl, hJ, hb3⟩
          clear hD n0 n1 n2 v0 v1 v2 v3 v4 v5 q1 q2
          obtain ⟨B1, d1, B2, d2, rfl⟩ := hJ.form
          obtain ⟨W4, eW4⟩ : ∃ W4, W4 = w3.alloc (jbox x B1 d1 B2 d2) := ⟨_, rfl⟩
          have hb4 : Below w3.heap.size w3 W4 := by rw [eW4]; exact below_new _ _
          have hx4 : Lies W4 w3.heap.size 27 [.int .i64 x.kind, .bool x.bool, .int .i64 x.int, .string (strOf x.text), .slice B1 x.names.length d1, .slice B2 x.list.length d2] := by rw [eW4]; exact Lies.new_ rfl
          have hb24 := below_more hb3 hb4
          have HB24 := Lib.hid hb24
          have HX4 := Lib.hid hx4
          have HW4 := Lib.hid eW4
          have HJ := Lib.hid (hJ.on hb4)
          have hbr4 := below_more HBR.out hb24
          have HBR4 := Lib.hid hbr4
          have hn4 : W4.cell? ⟨wr.heap.size, 0, none⟩ = some (.string (strOf r.name)) := (HND2.out.below hb24 HND2.out.lt).cell 0
          obtain ⟨K, eK⟩ : ∃ K, decide (x.kind = 0) = K := ⟨_, rfl⟩
          have HK := Lib.hid eK
          rw [eK]
          have HSAME : Hid ((K = true ∨ Vq.Reserved r.name) → ∃ (k' : Nat) (o : Mq.Obj) (A1 : Option Addr) (c1 : Nat) (A2 : Option Addr) (c2 : Nat), Value.int .i64 ((k + 1 : Nat) : Int) = .int .i64 k' ∧ k' ≤ n ∧ Hid (RunSt S v rs w.heap.size W.heap.size k' o (.slice A1 o.1.length c1) (.slice A2 o.2.length c2) W W4)) := by
            intro hor
            obtain ⟨hrun, hlm, hrow, hok, hb⟩ := HS.out
            refine ⟨k + 1, o, A1, c1, A2, c2, rfl, hlt, ?_, hlm.below hbr4 (by have := hlm.lt; omega), hrow.on hbr4, by omega, hb.trans (hbr4.mono (by omega))⟩
            have hstep : Mq.step S v o r = o := by
              unfold Mq.step
              rw [HE.out]
              refine if_neg fun h => ?_
              rcases hor with h' | h'
              · exact h.1 (of_decide_eq_true (HK.out.trans h'))
              · exact h.2 h'
            rw [hrun, HNX.out, HAP.out, if_pos rfl, if_neg HN0.out, hstep]
          clear eK eW4 hb3 hb4 hx4 hb24 hbr4 hJ
          go_upto_region 9 with (fail)
          rw [← HW4.out]
          cases K with
          | true =>
            go_wp2
            go_roundw
            case rel => exact HSAME.out (.inl rfl)
            case measure => simp [intOf]; omega
          | false =>
            have hF := reserved_any r.name HRT.out W4
            by_cases hres : Vq.Reserved r.name
            · rw [decide_eq_true hres] at hF
              have HRES := Lib.hid hres
              clear hres
              go_wp2_with fail
              refine hF.mono ?_
              rintro e w5 ⟨rfl, rfl⟩
              clear hF
              go_wp2
              go_roundw
              case rel => exact HSAME.out (.inr HRES.out)
              case measure => simp [intOf]; omega
            · rw [decide_eq_false hres] at hF
              have HRES := Lib.hid hres
              clear hres
              obtain ⟨hrun, hlm, hrow, hok, hb⟩ := HS.out
              have hlm4 := hlm.below HBR4.out (by have := hlm.lt; omega)
              have hrow4 := hrow.on HBR4.out
              have hlts := hrow.lt
              have hJ4 : IsJ W4 (fun b => W.heap.size ≤ b ∧ (Value.slice A1 o.1.length c1).ownBlock ≠ some b ∧ (Value.slice A2 o.2.length c2).ownBlock ≠ some b) _ x := HJ.out.keep (ok' := fun b => W.heap.size ≤ b ∧ (Value.slice A1 o.1.length c1).ownBlock ≠ some b ∧ (Value.slice A2 o.2.length c2).ownBlock ≠ some b) (fun b hb _ => ⟨by
                have hb : w2.heap.size ≤ b := hb
                have h2 := HBR.out.size
                exact ⟨by omega, fun e => by have := (hlts.1 b e).2; omega, fun e => by have := (hlts.2 b e).2; omega⟩, rfl⟩) (Nat.le_refl _)
              have hG := withM_any W4 hrow4 hJ4 ⟨HRO.out.1, HRT.out⟩ (by omega)
              have HLM4 := Lib.hid hlm4
              have HROW4 := Lib.hid hrow4
              obtain ⟨⟨z0, z1, z2, z3, z4, z5⟩, _⟩ := hlm4.six
              obtain ⟨⟨y0, y1, y2, y3, y4, y5⟩, _⟩ := HX4.out.six
              clear hrun hlm hrow hb hlm4 hrow4 hJ4 hlts
              go_wp2_with fail
              refine hF.mono ?_
              rintro e w5 ⟨rfl, rfl⟩
              clear hF
              go_wp2_with fail
              refine hG.mono ?_
              rintro e w5 ⟨nv', lv', rfl, hrow5, htwo⟩
              clear hG z0 z1 z2 z3 z4 z5 y0 y1 y2 y3 y4 y5
              obtain ⟨A3, c3, rfl⟩ := own_slice hrow5.names
              obtain ⟨A4, c4, rfl⟩ : ∃ A c, lv' = .slice A (Mq.set o r.name x).2.length c := by obtain ⟨_, _, h, _⟩ := hrow5.rows; exact own_slice h
              have hb45 := htwo.below HROW4.out
              have hlm5 := HLM4.out.below (hb45.mono (by omega : w.heap.size + 3 ≤ W.heap.size)) (by omega)
              obtain ⟨W6, eW6⟩ : ∃ W6, W6 = put6 w5 (w.heap.size + 2) (.int .i64 5) (.bool false) (.int .i64 0) (.string ByteArray.empty) (.slice A3 (Mq.set o r.name x).1.length c3) (.slice A4 (Mq.set o r.name x).2.length c4) := ⟨_, rfl⟩
              have hg6 : w5.grownBy W6 (some (w.heap.size + 2)) := by rw [eW6]; exact gb_put6
              have hlm6 : Lies W6 (w.heap.size + 2) 27 [.int .i64 5, .bool false, .int .i64 0, .string ByteArray.empty, .slice A3 (Mq.set o r.name x).1.length c3, .slice A4 (Mq.set o r.name x).2.length c4] := by rw [eW6]; exact hlm5.put6
              have HQ : Hid (∃ (k' : Nat) (o : Mq.Obj) (A1 : Option Addr) (c1 : Nat) (A2 : Option Addr) (c2 : Nat), Value.int .i64 ((k + 1 : Nat) : Int) = .int .i64 k' ∧ k' ≤ n ∧ Hid (RunSt S v rs w.heap.size W.heap.size k' o (.slice A1 o.1.length c1) (.slice A2 o.2.length c2) W W6)) := by
                obtain ⟨hrun, hlm, hrow, hok, hb⟩ := HS.out
                have hstep : Mq.step S v o r = Mq.set o r.name x := by
                  unfold Mq.step
                  rw [HE.out]
                  exact if_pos ⟨of_decide_eq_false HK.out, HRES.out⟩
                refine ⟨k + 1, Mq.set o r.name x, A3, c3, A4, c4, rfl, hlt, ?_, hlm6, hrow5.off hg6 (by omega), by have := (Mq.set_len r.name x hrow.len).2; omega, ?_⟩
                · rw [hrun, HNX.out, HAP.out, if_pos rfl, if_neg HN0.out, hstep]
                · have h1 := hb.trans (HBR4.out.mono (by omega : w.heap.size + 2 ≤ wr.heap.size))
                  have h2 := h1.trans (hb45.mono (by omega : w.heap.size + 2 ≤ W.heap.size))
                  exact ⟨hg6.os.trans h2.os, hg6.tape.trans h2.tape, hg6.output.trans h2.output, Nat.le_trans h2.size hg6.size, fun b hb => (hg6.block b (by have := h2.size; omega) (fun e => by injection e with e; omega)).trans (h2.block b hb)⟩
              obtain ⟨⟨r0, r1, r2, r3, r4, r5⟩, f0, f1, f2, f3, f4, f5⟩ := hlm5.six
              have HW6 := Lib.hid eW6
              rw [eW6] at HQ
              clear hrow5 htwo hb45 hlm5 hg6 hlm6 eW6
              go_wp2
              go_roundw
              case rel => exact HQ.out
              case measure => simp [intOf]; omega
    · obtain rfl : k = n := by omega
      have hd : decide ((k : Int) < (k : Int)) = false := by simp
      have hJ := hrow.isJ (by omega)
      have hC := right_any _ _ wr (HH.out.below hbw) hJ
      obtain ⟨⟨z0, z1, z2, z3, z4, z5⟩, _⟩ := hlm.six
      have HJ := Lib.hid hJ
      have HLM := Lib.hid hlm
      have HB := Lib.hid hb
      have HBWR := Lib.hid hbw
      have hwrs := hb.size
      have HWRS := Lib.hid hwrs
      have hrunO : Mq.run S v ([], []) rs = some o := by rw [hrun, ← HLN.out, List.drop_length]; rfl
      have hXX : X = if (Jq.valueP 16 [] (Jq.objJ o.1 o.2)).isSome then (Jq.objJ o.1 o.2, 0) else (Jq.nullJ, 131) := by rw [← HX.out]; unfold Mq.runV; rw [hrunO]
      obtain ⟨K, eK⟩ : ∃ K, (Jq.valueP 16 [] (Jq.objJ o.1 o.2)).isSome = K := ⟨_, rfl⟩
      rw [eK] at hC hXX
      have HXX := Lib.hid hXX
      clear hrun hlm hrow hb hbw hJ hrunO hXX eK hok
      cases K with
      | true =>
        go_wp2_with fail
        refine hC.mono ?_
        rintro e w6 ⟨rfl, hb6⟩
        clear hC z0 z1 z2 z3 z4 z5
        have hbw6 := below_more HBWR.out hb6
        have hl6 := (HL0.out.below HB.out (by omega)).below hb6 (by omega)
        have hlm6 := HLM.out.below hb6 HLM.out.lt
        have hlf : Lies (put6 w6 (w.heap.size + 1) (.int .i64 5) (.bool false) (.int .i64 0) (.string ByteArray.empty) (.slice A1 o.1.length c1) (.slice A2 o.2.length c2)) (w.heap.size + 1) 27 [.int .i64 5, .bool false, .int .i64 0, .string ByteArray.empty, .slice A1 o.1.length c1, .slice A2 o.2.length c2] := hl6.put6
        have HQ : Hid (RunE X w (.returned (.tuple #[jv 5 false 0 ByteArray.empty (.slice A1 o.1.length c1) (.slice A2 o.2.length c2), .int .i64 0])) (put6 w6 (w.heap.size + 1) (.int .i64 5) (.bool false) (.int .i64 0) (.string ByteArray.empty) (.slice A1 o.1.length c1) (.slice A2 o.2.length c2))) := by
          rw [HXX.out]
          first | rw [if_pos rfl] | rw [if_pos trivial]
          exact ⟨_, rfl, (HJ.out.on hb6).keep (fun b hb _ => ⟨by have hb : W.heap.size ≤ b := hb; omega, put6_far (by have hb : W.heap.size ≤ b := hb; omega)⟩) (Nat.le_of_eq put6_size.symm), hbw6.trans (gb_down gb_put6 hbw6.size (Nat.le_succ _))⟩
        obtain ⟨⟨x0, x1, x2, x3, x4, x5⟩, _⟩ := hlf.six
        obtain ⟨⟨r0, r1, r2, r3, r4, r5⟩, f0, f1, f2, f3, f4, f5⟩ := hl6.six
        obtain ⟨⟨z0, z1, z2, z3, z4, z5⟩, _⟩ := hlm6.six
        clear hb6 hbw6 hl6 hlm6 hlf
        go_wp2
        exact bodyPost_ret (by simp [results, Tryd.results15, go_sem, x0, x1, x2, x3, x4, x5]) rfl HQ.out
      | false =>
        go_wp2_with fail
        refine hC.mono ?_
        rintro e w6 ⟨rfl, hb6⟩
        clear hC z0 z1 z2 z3 z4 z5
        have hbw6 := below_more HBWR.out hb6
        have hl6 := (HL0.out.below HB.out (by omega)).below hb6 (by omega)
        have hlf : Lies (put6 w6 (w.heap.size + 1) (.int .i64 0) (.bool false) (.int .i64 0) (.string { data := #[] }) nilS nilS) (w.heap.size + 1) 27 [.int .i64 0, .bool false, .int .i64 0, .string { data := #[] }, nilS, nilS] := hl6.put6
        have HQ : Hid (RunE X w (.returned (.tuple #[jv 0 false 0 { data := #[] } nilS nilS, .int .i64 131])) (put6 w6 (w.heap.size + 1) (.int .i64 0) (.bool false) (.int .i64 0) (.string { data := #[] }) nilS nilS)) := by
          rw [HXX.out]
          first | rw [if_neg Bool.false_ne_true] | rw [if_neg not_false]
          exact ⟨_, rfl, isJ_null _ _, hbw6.trans (gb_down gb_put6 hbw6.size (Nat.le_succ _))⟩
        obtain ⟨⟨x0, x1, x2, x3, x4, x5⟩, _⟩ := hlf.six
        obtain ⟨⟨r0, r1, r2, r3, r4, r5⟩, f0, f1, f2, f3, f4, f5⟩ := hl6.six
        clear hb6 hbw6 hl6 hlf
        go_wp2
        exact bodyPost_ret (by simp [results, Tryd.results15, go_sem, x0, x1, x2, x3, x4, x5]) rfl HQ.out
end Go.Proofs.YtnbaajdcakjlmaaDoor
