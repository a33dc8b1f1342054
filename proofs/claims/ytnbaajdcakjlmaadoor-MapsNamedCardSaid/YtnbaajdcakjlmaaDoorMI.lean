/-
  Value: what an expression says.
-/
import Derived.Test.YtnbaajdcakjlmaaDoorMG
import Derived.Test.YtnbaajdcakjlmaaDoorMH
namespace Go.Proofs.YtnbaajdcakjlmaaDoor
open Go.RowKit Go.Sort

/-- How Value ends. -/
def SaidE (x : Jq.J) (w : World) (e : Ending) (w' : World) : Prop := ∃ u, e = .returned (.tuple #[u, .bool (!decide (x.kind = 0))]) ∧ IsJ w' (w.heap.size ≤ ·) u x ∧ Below w.heap.size w w'
/-- Nodes whose numbers and texts are in their bounds. -/
def NodesOk (ns : List Zq.Nd) : Prop := ∀ n ∈ ns, (n.text.length ≤ 140737488355328 ∧ ∀ x ∈ n.text, x < 256) ∧ (-9223372036854775808 ≤ n.int ∧ n.int ≤ 9223372036854775807)

set_option maxHeartbeats 4000000 in
set_option maxRecDepth 100000 in
theorem valueM_any (S : Mq.Same) {ok okv : Nat → Prop} (ns : List Zq.Nd) (N : Option Addr) (n nc : Nat) (v : Jq.J) (V1 V2 : Option Addr) (e1 e2 : Nat) (w : World) (hN : NsE w ok (.slice N n nc) ns) (hn : ns.length = n) (hn3 : n ≤ 300) (hO : NodesOk ns)
    (hV : IsJ w okv (jv v.kind v.bool v.int (strOf v.text) (.slice V1 v.names.length e1) (.slice V2 v.list.length e2)) v) :
    Calls Tryd.prog 11 #[.slice N n nc, jv v.kind v.bool v.int (strOf v.text) (.slice V1 v.names.length e1) (.slice V2 v.list.length e2)] w (SaidE (Mq.valueV S v ns) w) := by
  obtain ⟨W, eW⟩ : ∃ W, W = ((w.alloc (jbox v V1 e1 V2 e2)).alloc zobjD).alloc (.cells #[.slice none 0 0] 56) := ⟨_, rfl⟩
  have hbW : Below w.heap.size w W := by rw [eW]; exact (below_new2 _ _ _).alloc (by simp; omega) _
  have hsW : W.heap.size = w.heap.size + 3 := by rw [eW]; simp
  have hlg : Lies W (w.heap.size + 2) 56 [.slice none 0 0] := by rw [eW]; exact Lies.new_ (by simp)
  have hl0 : Lies W (w.heap.size + 1) 27 zero6 := by rw [eW]; exact (Lies.new_ (by simp)).alloc _
  have hlv : Lies W w.heap.size 27 [.int .i64 v.kind, .bool v.bool, .int .i64 v.int, .string (strOf v.text), .slice V1 v.names.length e1, .slice V2 v.list.length e2] := by rw [eW]; exact ((Lies.new_ rfl).alloc _).alloc _
  have HBW := Lib.hid hbW
  have HSW := Lib.hid hsW
  have HL0 := Lib.hid hl0
  have HLV := Lib.hid hlv
  have HLG := Lib.hid hlg
  have HW := Lib.hid eW
  have HN := Lib.hid hN
  have HLN := Lib.hid hn
  have HO := Lib.hid hO
  have HV := Lib.hid hV
  obtain ⟨x, ex⟩ : ∃ x, Mq.valueV S v ns = x := ⟨_, rfl⟩
  rw [ex]
  have HX := Lib.hid ex
  clear hbW hsW hl0 hlv hlg eW hN hn hO hV ex
  go_enter Tryd.func11, Tryd.ntmps11
  go_upto_region 2 with (fail)
  rw [← HW.out]
  go_wp2_with fail
  go_loopw [13] (fun i wr => ∃ (k : Nat) (A : Option Addr) (c : Nat), i = .int .i64 k ∧ k ≤ n ∧ Lies wr (w.heap.size + 2) 56 [.slice A k c] ∧ RowJ W.heap.size k (Mq.go S v [] (ns.take k)) (.slice A k c) wr ∧ Below (w.heap.size + 2) W wr) (fun i _ => n - (intOf i).toNat)
  case atStart => exact ⟨0, none, 0, rfl, Nat.zero_le _, HLG.out, RowJ.nil (Nat.le_refl _), Below.refl _ _⟩
  case round =>
    obtain ⟨k, A, c, rfl, hk, hg, hrow, hb⟩ := hrel
    have hbw : Below w.heap.size w wr := HBW.out.trans (hb.mono (by omega))
    by_cases hlt : k < n
    · obtain ⟨bl, off, nd, rfl, _, hnlt, hx, hnt, s0, s1, s2, s3, s4⟩ := (HN.out.more hbw).elem (i := k) (by rw [HLN.out]; exact hlt)
      obtain ⟨WN, eWN⟩ : ∃ WN, WN = wr.alloc (nbox nd.op nd.int nd.a nd.b nd.text) := ⟨_, rfl⟩
      have hbN : Below wr.heap.size wr WN := by rw [eWN]; exact below_new _ _
      have hsN : WN.heap.size = wr.heap.size + 1 := by rw [eWN]; simp
      have hnd : Lies WN wr.heap.size 44 [.int .i64 nd.op, .int .i64 nd.int, .int .i64 nd.a, .int .i64 nd.b, .string (strOf nd.text)] := by rw [eWN]; exact Lies.new_ rfl
      have HWN := Lib.hid eWN
      have HB := Lib.hid hb
      have HBN := Lib.hid hbN
      have HG := Lib.hid hg
      have HROW := Lib.hid hrow
      have HND := Lib.hid hnd
      have HXK := Lib.hid hx
      have HSN := Lib.hid hsN
      have HBWR := Lib.hid hbw
      clear hb hbN hg hrow hnd hx hnt hnlt eWN hsN hbw
      go_upto_region 6 with (fail)
      rw [← HWN.out]
      clear s0 s1 s2 s3 s4
      have hwrs := HB.out.size
      have hsw := HSW.out
      have g0 : WN.cell? ⟨w.heap.size + 2, 0, none⟩ = some (.slice A k c) := (HG.out.below HBN.out HG.out.lt).cell 0
      obtain ⟨n0, n1, n2, n3, n4⟩ : WN.cell? ⟨wr.heap.size, 0, none⟩ = some (.int .i64 nd.op) ∧ WN.cell? ⟨wr.heap.size, 1, none⟩ = some (.int .i64 nd.int) ∧ WN.cell? ⟨wr.heap.size, 2, none⟩ = some (.int .i64 nd.a) ∧ WN.cell? ⟨wr.heap.size, 3, none⟩ = some (.int .i64 nd.b) ∧ WN.cell? ⟨wr.heap.size, 4, none⟩ = some (.string (strOf nd.text)) := ⟨HND.out.cell 0, HND.out.cell 1, HND.out.cell 2, HND.out.cell 3, HND.out.cell 4⟩
      have hvN : Lies WN w.heap.size 27 [.int .i64 v.kind, .bool v.bool, .int .i64 v.int, .string (strOf v.text), .slice V1 v.names.length e1, .slice V2 v.list.length e2] := (HLV.out.below HB.out (by omega)).below HBN.out (by omega)
      obtain ⟨⟨v0, v1, v2, v3, v4, v5⟩, _⟩ := hvN.six
      have hbwN := below_more HBWR.out HBN.out
      have hC := ofM_any S nd _ A k c v V1 V2 e1 e2 WN ((HROW.out.listE (by omega)).on HBN.out) HROW.out.2.1 (HO.out nd (List.mem_of_getElem? HXK.out)).1 (HO.out nd (List.mem_of_getElem? HXK.out)).2 (HV.out.on hbwN)
      have HBWN := Lib.hid hbwN
      clear hvN hbwN
      go_wp2_with fail
      refine hC.mono ?_
      rintro e w2 ⟨u, rfl, hJ, hb2⟩
      clear hC g0 n0 n1 n2 n3 n4 v0 v1 v2 v3 v4 v5
      obtain ⟨Y1, y1, Y2, y2, rfl⟩ := hJ.form
      have hb02 := below_more HBN.out hb2
      have hlt0 := HROW.out.2.2
      have hJ2 : IsJ w2 (fun b => W.heap.size ≤ b ∧ (Value.slice A k c).ownBlock ≠ some b) _ _ := hJ.keep (ok' := fun b => W.heap.size ≤ b ∧ (Value.slice A k c).ownBlock ≠ some b) (fun b hb _ => ⟨hb.elim id (fun h => ⟨by have := HSN.out; omega, fun e => by
        obtain ⟨_, _, ho, _⟩ := hlt0
        have := (ho.lt b e).2
        have := HSN.out
        omega⟩), rfl⟩) (Nat.le_refl _)
      have hD := addM_any _ A Y1 Y2 c y1 y2 w2 (HG.out.below hb02 HG.out.lt) (HROW.out.on hb02) (by omega) (by omega) hJ2
      have HB2 := Lib.hid hb02
      clear hJ hJ2 hb02 hb2 hlt0
      go_wp2_with fail
      refine hD.mono ?_
      rintro e w3 ⟨rfl, lv', hg3, hrow3, hb3⟩
      clear hD
      obtain ⟨A3, c3, rfl⟩ : ∃ A3 c3, lv' = .slice A3 (k + 1) c3 := by
        obtain ⟨_, _, ho, _⟩ := hrow3.2.2
        exact own_slice ho
      have HQ : Hid (∃ (k' : Nat) (A : Option Addr) (c : Nat), Value.int .i64 ((k + 1 : Nat) : Int) = .int .i64 k' ∧ k' ≤ n ∧ Lies w3 (w.heap.size + 2) 56 [.slice A k' c] ∧ RowJ W.heap.size k' (Mq.go S v [] (ns.take k')) (.slice A k' c) w3 ∧ Below (w.heap.size + 2) W w3) :=
        ⟨k + 1, A3, c3, rfl, hlt, hg3, by rw [Mq.go_take S v HXK.out]; exact hrow3, HB.out.trans ((HB2.out.mono (by omega)).trans hb3)⟩
      clear hg3 hrow3 hb3 hwrs hsw
      go_wp2
      go_roundw
      case rel => exact HQ.out
      case measure => simp [intOf]; omega
    · obtain rfl : k = n := by omega
      have hd : decide ((k : Int) < (k : Int)) = false := by simp
      have hg0 : wr.cell? ⟨w.heap.size + 2, 0, none⟩ = some (.slice A k c) := hg.cell 0
      have hwr : IntKind.i64.wrap ((k : Int) - 1) = (k : Int) - 1 := by unfold IntKind.wrap; simp [IntKind.bits, IntKind.signed]; omega
      have hL := hrow.listE (by omega)
      rw [← HLN.out, List.take_length] at hL
      have hlen : (Mq.go S v [] ns).length = k := by rw [Mq.go_length]; simp [HLN.out]
      obtain ⟨B1, B2, d1, d2, hJ, hAt⟩ := atM_known _ A k c ((k : Int) - 1) wr (by rw [HLN.out] at hL; exact hL) hlen
      have hxe : Mq.at_ (Mq.go S v [] ns) ((k : Int) - 1) = x := by rw [← HX.out]; unfold Mq.valueV; rw [HLN.out]
      rw [hxe] at hJ hAt
      have hC := hAt wr (Below.refl _ _)
      have HJ := Lib.hid hJ
      have HB := Lib.hid hb
      have HBWR := Lib.hid hbw
      have hwrs := hb.size
      have HWS := Lib.hid hwrs
      clear hg hrow hb hL hlen hJ hAt hxe hbw hwrs
      go_wp2_with fail
      refine hC.mono ?_
      rintro e w2 ⟨rfl, hb2⟩
      clear hC hg0
      obtain ⟨W3, eW3⟩ : ∃ W3, W3 = w2.alloc (jbox x B1 d1 B2 d2) := ⟨_, rfl⟩
      have hb3 : Below w2.heap.size w2 W3 := by rw [eW3]; exact below_new _ _
      have hx3 : Lies W3 w2.heap.size 27 [.int .i64 x.kind, .bool x.bool, .int .i64 x.int, .string (strOf x.text), .slice B1 x.names.length d1, .slice B2 x.list.length d2] := by rw [eW3]; exact Lies.new_ rfl
      have HW3 := Lib.hid eW3
      have hb23 := below_more hb2 hb3
      have HB23 := Lib.hid hb23
      have HX3 := Lib.hid hx3
      clear eW3 hb2 hb3 hx3 hb23
      go_upto_region 9 with (fail)
      rw [← HW3.out]
      obtain ⟨⟨z0, z1, z2, z3, z4, z5⟩, _⟩ := HX3.out.six
      obtain ⟨K, eK⟩ : ∃ K, decide (x.kind = 0) = K := ⟨_, rfl⟩
      have HK := Lib.hid eK
      clear eK
      go_region_law (go_simp; go_at_call 23; refine (isNoneM_any x B1 B2 d1 d2 _).mono ?_; rintro e wE ⟨hfin0, rfl⟩; have hfin : Below W3.heap.size W3 wE := ⟨hfin0.os, hfin0.tape, hfin0.output, hfin0.size, hfin0.block⟩; rw [HK.out]; have hbE := below_more HB23.out hfin; have hlE := (HL0.out.below HB.out (by omega)).below hbE (by have := HWS.out; have := HSW.out; omega); have hbwE := below_more HBWR.out hbE; have hlf : Lies (put6 wE (w.heap.size + 1) (.int .i64 x.kind) (.bool x.bool) (.int .i64 x.int) (.string (strOf x.text)) (.slice B1 x.names.length d1) (.slice B2 x.list.length d2)) (w.heap.size + 1) 27 [.int .i64 x.kind, .bool x.bool, .int .i64 x.int, .string (strOf x.text), .slice B1 x.names.length d1, .slice B2 x.list.length d2] := hlE.put6; have HQ : Hid (SaidE x w (.returned (.tuple #[jv x.kind x.bool x.int (strOf x.text) (.slice B1 x.names.length d1) (.slice B2 x.list.length d2), .bool (!K)])) (put6 wE (w.heap.size + 1) (.int .i64 x.kind) (.bool x.bool) (.int .i64 x.int) (.string (strOf x.text)) (.slice B1 x.names.length d1) (.slice B2 x.list.length d2))) := ⟨_, by rw [HK.out], (HJ.out.on hbE).keep (fun b hb _ => ⟨by have := hb.1; have := HSW.out; omega, put6_far (by have := hb.1; have := HSW.out; omega)⟩) (Nat.le_of_eq put6_size.symm), hbwE.trans (gb_down gb_put6 hbwE.size (Nat.le_succ _))⟩; obtain ⟨⟨q0, q1, q2, q3, q4, q5⟩, _⟩ := hlf.six; obtain ⟨⟨r0, r1, r2, r3, r4, r5⟩, f0, f1, f2, f3, f4, f5⟩ := hlE.six; obtain ⟨⟨y0, y1, y2, y3, y4, y5⟩, _⟩ := (HX3.out.below hfin HX3.out.lt).six; clear hfin0 hfin hbE hlE hbwE hlf)
      all_goals
        go_wp2
        exact bodyPost_ret (by simp [results, Tryd.results11, go_sem, q0, q1, q2, q3, q4, q5]) rfl HQ.out
end Go.Proofs.YtnbaajdcakjlmaaDoor
