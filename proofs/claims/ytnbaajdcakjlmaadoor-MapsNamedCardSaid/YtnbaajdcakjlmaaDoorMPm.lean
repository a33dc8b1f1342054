/-
  The law MapsNamed.
-/
import Derived.Test.YtnbaajdcakjlmaaDoorMRegM
import Derived.Test.YtnbaajdcakjlmaaDoorMFew
import Derived.Test.YtnbaajdcakjlmaaDoorMSm
namespace Go.Proofs.YtnbaajdcakjlmaaDoor
open Go.RowKit

set_option maxHeartbeats 8000000 in
set_option maxRecDepth 100000 in
theorem lawNamed_any {ok okv okx : Nat → Prop} (rs : List Zq.Rl) (A : Option Addr) (n c : Nat) (v : Jq.J) (V1 V2 : Option Addr) (e1 e2 : Nat) (x : Jq.J) (X1 X2 : Option Addr) (f1 f2 : Nat) (w : World) (hH : Held w) (hR : RsE w ok (.slice A n c) rs) (hn : rs.length = n) (hB : ∀ r ∈ rs, RuleB r)
    (hV : IsJ w okv (jv v.kind v.bool v.int (strOf v.text) (.slice V1 v.names.length e1) (.slice V2 v.list.length e2)) v) (hX : IsJ w okx (jv x.kind x.bool x.int (strOf x.text) (.slice X1 x.names.length f1) (.slice X2 x.list.length f2)) x) :
    Calls Tryd.prog 4 #[.slice A n c, jv v.kind v.bool v.int (strOf v.text) (.slice V1 v.names.length e1) (.slice V2 v.list.length e2), jv x.kind x.bool x.int (strOf x.text) (.slice X1 x.names.length f1) (.slice X2 x.list.length f2)] w (IsTrue w) := by
  obtain ⟨S, _⟩ := Mq.some_same
  obtain ⟨W0, eW0⟩ : ∃ W0, W0 = (w.alloc (jbox v V1 e1 V2 e2)).alloc (jbox x X1 f1 X2 f2) := ⟨_, rfl⟩
  have hb0 : Below w.heap.size w W0 := by rw [eW0]; exact below_new2 _ _ _
  have hv0 : Lies W0 w.heap.size 27 [.int .i64 v.kind, .bool v.bool, .int .i64 v.int, .string (strOf v.text), .slice V1 v.names.length e1, .slice V2 v.list.length e2] := by rw [eW0]; exact (Lies.new_ rfl).alloc _
  have hx0 : Lies W0 (w.heap.size + 1) 27 [.int .i64 x.kind, .bool x.bool, .int .i64 x.int, .string (strOf x.text), .slice X1 x.names.length f1, .slice X2 x.list.length f2] := by rw [eW0]; exact Lies.new_ (by simp)
  have hC := small13_any v _ W0 (hV.on hb0)
  have hA := alive13_any W0 (hH.below hb0)
  have HH : Hid (Held w) := hH
  have HR := Lib.hid hR
  have HN := Lib.hid hn
  have HBB := Lib.hid hB
  have HV := Lib.hid hV
  have HX := Lib.hid hX
  have HV0 := Lib.hid hv0
  have HX0 := Lib.hid hx0
  have HB0 := Lib.hid hb0
  have HW0 := Lib.hid eW0
  rw [eW0] at hC hA
  clear hH hR hn hB hV hX hv0 hx0 hb0 eW0
  by_cases h5 : v.kind = 5
  rotate_left
  · have d5 : (v.kind != 5) = true := by rw [bne_iff_ne]; exact h5
    clear h5 hC
    go_enter Tryd.func4, Tryd.ntmps4
    go_wp2_with fail
    refine hA.mono ?_
    rintro e w2 ⟨rfl, hb2⟩
    clear hA
    rw [← HW0.out] at hb2
    have HE : Hid (IsTrue w (.returned (.bool true)) w2) := ⟨rfl, below_more HB0.out hb2⟩
    clear hb2
    go_wp2
    go_ret
    exact HE.out
  have d5 : (v.kind != 5) = false := by rw [h5]; rfl
  by_cases h6 : v.names.length = v.list.length
  rotate_left
  · have d6 : ((v.names.length : Int) != (v.list.length : Int)) = true := by rw [bne_iff_ne]; omega
    clear h5 h6 hC
    go_enter Tryd.func4, Tryd.ntmps4
    go_wp2_with fail
    refine hA.mono ?_
    rintro e w2 ⟨rfl, hb2⟩
    clear hA
    rw [← HW0.out] at hb2
    have HE : Hid (IsTrue w (.returned (.bool true)) w2) := ⟨rfl, below_more HB0.out hb2⟩
    clear hb2
    go_wp2
    go_ret
    exact HE.out
  have d6 : ((v.names.length : Int) != (v.list.length : Int)) = false := by rw [h6]; simp
  have H5 := Lib.hid h5
  have H6 := Lib.hid h6
  clear h5 h6 hA
  go_enter Tryd.func4, Tryd.ntmps4
  go_wp2_with fail
  refine hC.mono ?_
  rintro e w1 ⟨⟨b1, rfl, hsm⟩, hb1⟩
  clear hC d5 d6
  rw [← HW0.out] at hb1
  have HB1 := Lib.hid (below_more HB0.out hb1)
  have HV1 := Lib.hid (HV0.out.below hb1 HV0.out.lt)
  have HX1 := Lib.hid (HX0.out.below hb1 HX0.out.lt)
  have HSM := Lib.hid hsm
  clear hb1 hsm
  cases b1 with
  | false =>
    have hA := alive13_any w1 (HH.out.below HB1.out)
    go_wp2_with fail
    refine hA.mono ?_
    rintro e w2 ⟨rfl, hb2⟩
    have HE : Hid (IsTrue w (.returned (.bool true)) w2) := ⟨rfl, below_more HB1.out hb2⟩
    clear hA hb2
    go_wp2
    go_ret
    exact HE.out
  | true =>
    have HSF := Lib.hid (HSM.out rfl)
    have hF := fewM_any rs A n c w1 (HR.out.more HB1.out) HN.out
    go_wp2_with fail
    refine hF.mono ?_
    rintro e w2 ⟨⟨b2, rfl, hfew⟩, hb2⟩
    clear hF
    have HB2 := Lib.hid (below_more HB1.out hb2)
    have HV2 := Lib.hid (HV1.out.below hb2 HV1.out.lt)
    have HX2 := Lib.hid (HX1.out.below hb2 HX1.out.lt)
    have HF := Lib.hid hfew
    clear hb2 hfew
    cases b2 with
    | false =>
      have hA := alive13_any w2 (HH.out.below HB2.out)
      go_wp2_with fail
      refine hA.mono ?_
      rintro e w3 ⟨rfl, hb3⟩
      have HE : Hid (IsTrue w (.returned (.bool true)) w3) := ⟨rfl, below_more HB2.out hb3⟩
      clear hA hb3
      go_wp2
      go_ret
      exact HE.out
    | true =>
      have hn60 : n ≤ 60 := by rw [← HN.out]; exact (HF.out rfl).1
      have HFW := Lib.hid (HF.out rfl)
      go_wp2_with fail
      go_loopw [42] (fun i wr => ∃ k : Nat, i = .int .i64 k ∧ k ≤ n ∧ Hid (NoneTo rs k) ∧ Below w2.heap.size w2 wr) (fun i _ => n - (intOf i).toNat)
      case atStart => exact ⟨0, rfl, Nat.zero_le _, (fun j r h => absurd h (Nat.not_lt_zero _)), Below.refl _ _⟩
      case round =>
        obtain ⟨k, rfl, hk, HNT, hb⟩ := hrel
        obtain ⟨wo, rfl⟩ : ∃ wo : World, wo = wr := ⟨_, rfl⟩
        have HB := Lib.hid hb
        have HBW := Lib.hid (below_more HB2.out hb)
        by_cases hlt : k < n
        · obtain ⟨bl, off, r, E1, ec, E2, cc, rfl, _, _, hx, hRl, s0, s1, s2⟩ := (HR.out.more HBW.out).elem (i := k) (by rw [HN.out]; exact hlt)
          obtain ⟨_, _, hNE, hNC⟩ := hRl
          simp only at hNE hNC
          obtain ⟨WN, eWN⟩ : ∃ WN, WN = wo.alloc (rbox r E1 ec E2 cc) := ⟨_, rfl⟩
          have hbN : Below wo.heap.size wo WN := by rw [eWN]; exact below_new _ _
          have hnd : Lies WN wo.heap.size 42 [.string (strOf r.name), .slice E1 r.expr.length ec, .slice E2 r.cond.length cc] := by rw [eWN]; exact Lies.new_ rfl
          have hfr := HFW.out.2 r (List.mem_of_getElem? hx)
          obtain ⟨N1, eN1⟩ : ∃ N1, r.expr.length = N1 := ⟨_, rfl⟩
          obtain ⟨N2, eN2⟩ : ∃ N2, r.cond.length = N2 := ⟨_, rfl⟩
          have hE1 := hNE.more hbN
          have hE2 := hNC.more hbN
          rw [eN1] at hE1 hfr hnd s1
          rw [eN2] at hE2 hfr hnd s2
          have HWN : Hid (WN = wo.alloc (.cells #[.string (strOf r.name), .slice E1 N1 ec, .slice E2 N2 cc] 42)) := by rw [← eN1, ← eN2]; exact eWN
          have HBN := Lib.hid (below_more HB.out hbN)
          have HND := Lib.hid hnd
          have HXK := Lib.hid hx
          have HE1 := Lib.hid hE1
          have HE2 := Lib.hid hE2
          have HN1 := Lib.hid eN1
          have HN2 := Lib.hid eN2
          have HFR := Lib.hid hfr
          have hN1 := hfr.1
          have hN2 := hfr.2
          clear hb hbN hnd hx eWN hNE hNC hE1 hE2 eN1 eN2 hfr
          go_upto_region 7 with (fail)
          rw [← HWN.out]
          clear s0 s1 s2
          refine wp_region_slotsA (by kernel_rfl) (NodI WN.heap.size WN) (NodF WN.heap.size wo.heap.size (.slice E1 N1 ec) (.slice E2 N2 cc) r.expr r.cond N1 N2) ⟨(Below.refl _ _).drew, fun h => by simp at h, fun h => by simp at h⟩ (by kernel_rfl) ?step ?fin
          case step =>
            intro i o ho listed a W hinv hun hall K' hK
            have hIs : WN.heap.size ≤ W.heap.size := hinv.world.1.size
            have hrl := HND.out.below hinv.world.1 HND.out.lt
            match i, ho with
            | 0, ho =>
              obtain rfl := oper_at ho rfl
              have hb := below_new W (.cells #[] 44)
              refine slot_value rfl (w' := W.alloc (.cells #[] 44)) (v := .slice (some ⟨W.heap.size, 0, none⟩) 0 0) ?_ ?_
              · go_simp
              · exact hK _ _ (hinv.world.pure hb hIs (by decide)) (.inr ⟨rfl, .inr ⟨W.heap.size, 0, #[], rfl, hIs, heap_alloc_new W _, Nat.le_refl _, Nat.zero_le _, rfl, rfl⟩⟩) (fun j u _ => NodF.on hb j u)
            | 1, ho =>
              obtain rfl := oper_at ho rfl
              have E1 : a.tmps[9]? = some (.pointer (some ⟨wo.heap.size, 0, none⟩)) := hinv.old 9 (by simp)
              refine slot_value rfl (w' := W) (v := .pointer (some ⟨wo.heap.size, 1, none⟩)) ?_ ?_
              · go_simp
              · exact hK _ _ (hinv.world.pure (Below.refl _ _) hIs (by decide)) rfl (fun j u _ => NodF.on (Below.refl _ _) j u)
            | 2, ho =>
              obtain rfl := oper_at ho rfl
              obtain ⟨u0, E0, hv0⟩ := hinv.arg 1 _ 47 rfl (hall ⟨1, .data⟩ (by simp) rfl) rfl
              obtain rfl : u0 = .pointer (some ⟨wo.heap.size, 1, none⟩) := hv0
              have y1 : W.cell? ⟨wo.heap.size, 1, none⟩ = some (.slice E1 N1 ec) := hrl.cell 1
              refine slot_value rfl (w' := W) (v := .slice E1 N1 ec) ?_ ?_
              · go_simp
              · exact hK _ _ (hinv.world.pure (Below.refl _ _) hIs (by decide)) rfl (fun j u _ => NodF.on (Below.refl _ _) j u)
            | 3, ho =>
              obtain rfl := oper_at ho rfl
              obtain ⟨u0, E0, hv0⟩ := hinv.arg 0 _ 46 rfl (hall ⟨0, .data⟩ (by simp) rfl) rfl
              obtain ⟨u1, E1', hv1⟩ := hinv.arg 2 _ 48 rfl (hall ⟨2, .data⟩ (by simp) rfl) rfl
              obtain rfl : u1 = .slice E1 N1 ec := hv1
              have hown : W.ownsRow WN.heap.size 44 5 u0 0 (ncells []) := hv0.resolve_left (fun e => by rw [hun] at e; cases e)
              obtain ⟨A6, c6, W6, hr, h2, h3⟩ := nod_append (ms := r.expr) 22 hown (HE1.out.more hinv.world.1) HN1.out (by omega) hIs
              rw [Nat.zero_add] at hr h2
              refine slot_value rfl (w' := W6) (v := .slice A6 N1 c6) ?_ ?_
              · simp [execOp, resolve, invoke, builtin, Act.eval, E0, E1', hr, Result.andThen]
              refine hK _ _ ⟨hinv.world.1.grown h3 hIs (fun k e => (hown.lt k e).1), fun _ => getD_mono (listed_of (hall ⟨0, .data⟩ (by simp) rfl)), fun e => getD_set_self _ _⟩ (.inr ⟨A6, c6, rfl, h2⟩) ?_
              intro j u hsl hu
              match j, hu, hsl with
              | 0, hu, _ => exact .inl (getD_set_self _ _)
              | 1, hu, _ => exact hu
              | 2, hu, _ => exact hu
              | 3, _, ⟨_, _, _, hl, _⟩ => rw [hun] at hl; cases hl
              | 4, hu, _ => exact hu
              | 5, hu, _ => exact hu
              | 6, _, ⟨_, _, _, hl, _⟩ => have := hinv.world.2.2 hl; rw [hun] at this; cases this
              | 7, hu, _ => exact hu
              | 8, hu, _ => exact hu
              | j + 9, _, _ => exact trivial
            | 4, ho =>
              obtain rfl := oper_at ho rfl
              have E1 : a.tmps[9]? = some (.pointer (some ⟨wo.heap.size, 0, none⟩)) := hinv.old 9 (by simp)
              refine slot_value rfl (w' := W) (v := .pointer (some ⟨wo.heap.size, 2, none⟩)) ?_ ?_
              · go_simp
              · exact hK _ _ (hinv.world.pure (Below.refl _ _) hIs (by decide)) rfl (fun j u _ => NodF.on (Below.refl _ _) j u)
            | 5, ho =>
              obtain rfl := oper_at ho rfl
              obtain ⟨u0, E0, hv0⟩ := hinv.arg 4 _ 50 rfl (hall ⟨4, .data⟩ (by simp) rfl) rfl
              obtain rfl : u0 = .pointer (some ⟨wo.heap.size, 2, none⟩) := hv0
              have y1 : W.cell? ⟨wo.heap.size, 2, none⟩ = some (.slice E2 N2 cc) := hrl.cell 2
              refine slot_value rfl (w' := W) (v := .slice E2 N2 cc) ?_ ?_
              · go_simp
              · exact hK _ _ (hinv.world.pure (Below.refl _ _) hIs (by decide)) rfl (fun j u _ => NodF.on (Below.refl _ _) j u)
            | 6, ho =>
              obtain rfl := oper_at ho rfl
              obtain ⟨u0, E0, hv0⟩ := hinv.arg 3 _ 49 rfl (hall ⟨3, .data⟩ (by simp) rfl) rfl
              obtain ⟨u1, E1', hv1⟩ := hinv.arg 5 _ 51 rfl (hall ⟨5, .data⟩ (by simp) rfl) rfl
              obtain rfl : u1 = .slice E2 N2 cc := hv1
              obtain ⟨A5, c5, rfl, hown⟩ := hv0.resolve_left (fun e => by rw [hun] at e; cases e)
              obtain ⟨A6, c6, W6, hr, h2, h3⟩ := nod_append (ms := r.cond) 22 hown (HE2.out.more hinv.world.1) HN2.out (by omega) hIs
              have l3 : listed.getD 3 true = true := listed_of (hall ⟨3, .data⟩ (by simp) rfl)
              refine slot_value rfl (w' := W6) (v := .slice A6 (N1 + N2) c6) ?_ ?_
              · simp [execOp, resolve, invoke, builtin, Act.eval, E0, E1', hr, Result.andThen]
              refine hK _ _ ⟨hinv.world.1.grown h3 hIs (fun k e => (hown.lt k e).1), fun _ => getD_mono (hinv.world.2.1 l3), fun e => getD_mono l3⟩ ⟨A6, c6, rfl, h2⟩ ?_
              intro j u hsl hu
              match j, hu, hsl with
              | 0, hu, _ => exact .inl (getD_mono l3)
              | 1, hu, _ => exact hu
              | 2, hu, _ => exact hu
              | 3, _, _ => exact .inl (getD_set_self _ _)
              | 4, hu, _ => exact hu
              | 5, hu, _ => exact hu
              | 6, _, ⟨_, _, _, hl, _⟩ => rw [hun] at hl; cases hl
              | 7, hu, _ => exact hu
              | 8, hu, _ => exact hu
              | j + 9, _, _ => exact trivial
            | 7, ho =>
              obtain rfl := oper_at ho rfl
              obtain ⟨u0, E0, A5, c5, rfl, hown⟩ := hinv.arg 6 _ 52 rfl (hall ⟨6, .data⟩ (by simp) rfl) rfl
              refine slot_value rfl (w' := W) (v := .int .i64 ((N1 + N2 : Nat) : Int)) ?_ ?_
              · go_simp
              · exact hK _ _ (hinv.world.pure (Below.refl _ _) hIs (by decide)) rfl (fun j u _ => NodF.on (Below.refl _ _) j u)
            | 8, ho =>
              obtain rfl := oper_at ho rfl
              refine slot_value rfl (w' := W) (v := .int .i64 0) ?_ ?_
              · go_simp
              · exact hK _ _ (hinv.world.pure (Below.refl _ _) hIs (by decide)) rfl (fun j u _ => NodF.on (Below.refl _ _) j u)
            | i + 9, ho => simp at ho
          case fin =>
            intro listed a W hinv hall
            have hI1 := hinv.world.1
            obtain ⟨u0, E0, _⟩ := hinv.slot 0 _ 46 rfl (hall 0) rfl
            obtain ⟨u1, E1', _⟩ := hinv.slot 1 _ 47 rfl (hall 1) rfl
            obtain ⟨u2, E2', _⟩ := hinv.slot 2 _ 48 rfl (hall 2) rfl
            obtain ⟨u3, E3, _⟩ := hinv.slot 3 _ 49 rfl (hall 3) rfl
            obtain ⟨u4, E4, _⟩ := hinv.slot 4 _ 50 rfl (hall 4) rfl
            obtain ⟨u5, E5, _⟩ := hinv.slot 5 _ 51 rfl (hall 5) rfl
            obtain ⟨u6, E6, A6, c6, rfl, hown⟩ := hinv.slot 6 _ 52 rfl (hall 6) rfl
            obtain ⟨u7, E7, hv7⟩ := hinv.slot 7 _ 53 rfl (hall 7) rfl
            obtain rfl : u7 = .int .i64 ((N1 + N2 : Nat) : Int) := hv7
            obtain ⟨u8, E8, hv8⟩ := hinv.slot 8 _ 54 rfl (hall 8) rfl
            obtain rfl : u8 = .int .i64 0 := hv8
            have ha := hinv.sets [(46, u0), (47, u1), (48, u2), (49, u3), (50, u4), (51, u5), (52, .slice A6 (N1 + N2) c6), (53, .int .i64 ((N1 + N2 : Nat) : Int)), (54, .int .i64 0)] (by simp [E0, E1', E2', E3, E4, E5, E6, E7, E8]) (by kernel_rfl)
            simp only [List.foldl_cons, List.foldl_nil, List.setIfInBounds_toArray, List.set_cons_zero, List.set_cons_succ] at ha
            subst ha
            clear hinv hall E0 E1' E2' E3 E4 E5 E6 E7 E8
            obtain ⟨_, _, _, _, _, ht1, _⟩ := HE1.out
            obtain ⟨_, _, _, _, _, ht2, _⟩ := HE2.out
            have hNS := NsE.ofOwn hown (by rw [List.length_append, HN1.out, HN2.out]) (fun q hq => (List.mem_append.1 hq).elim (ht1 q) (ht2 q))
            obtain ⟨M, eM⟩ : ∃ M, N1 + N2 = M := ⟨_, rfl⟩
            have hLM : (r.expr ++ r.cond).length = M := by rw [List.length_append, HN1.out, HN2.out, eM]
            rw [eM] at hNS ⊢
            have hM : M ≤ 400 := by omega
            have HNS := Lib.hid hNS
            have HLM := Lib.hid hLM
            have HBX := Lib.hid (below_more HBN.out hI1)
            clear hNS hLM hI1 hown ht1 ht2 eM
            go_wp2_with fail
            go_loopw [54] (fun i wr => ∃ j : Nat, i = .int .i64 j ∧ j ≤ M ∧ Hid (NodTo (r.expr ++ r.cond) j) ∧ Below W.heap.size W wr) (fun i _ => M - (intOf i).toNat)
            case atStart => exact ⟨0, rfl, Nat.zero_le _, (fun j q h => absurd h (Nat.not_lt_zero _)), Below.refl _ _⟩
            case round =>
              obtain ⟨j, rfl, hj, HD, hb⟩ := hrel
              have HBI := Lib.hid (below_more HBX.out hb)
              by_cases hlt2 : j < M
              · obtain ⟨bl2, off2, y, rfl, _, _, hy, hyt, t0, t1, t2, t3, t4⟩ := (HNS.out.more hb).elem (i := j) (by rw [HLM.out]; exact hlt2)
                have hTT := str_beq hyt (show ∀ x ∈ zzzM, x < 256 from by decide)
                rw [show (strOf zzzM).toList = [122, 122, 122] from by rw [ByteArray.toList_eq]; rfl] at hTT
                have HY := Lib.hid hy
                obtain ⟨WJ, eWJ⟩ : ∃ WJ, WJ = wr.alloc (.cells #[.int .i64 y.op, .int .i64 y.int, .int .i64 y.a, .int .i64 y.b, .string (strOf y.text)] 44) := ⟨_, rfl⟩
                have hbJ : Below wr.heap.size wr WJ := by rw [eWJ]; exact below_new _ _
                have hlJ : Lies WJ wr.heap.size 44 [.int .i64 y.op, .int .i64 y.int, .int .i64 y.a, .int .i64 y.b, .string (strOf y.text)] := by rw [eWJ]; exact Lies.new_ rfl
                have HBJ := Lib.hid (below_more hb hbJ)
                have HWJ := Lib.hid eWJ
                have HLJ := Lib.hid hlJ
                have hA := alive13_any WJ (HH.out.below (below_more HB2.out (below_more HBX.out HBJ.out)))
                clear hb hy hyt hbJ hlJ eWJ
                go_upto_region 10 with (fail)
                rw [← HWJ.out]
                clear t0 t1 t2 t3 t4
                have t4 : WJ.cell? ⟨wr.heap.size, 4, none⟩ = some (.string (strOf y.text)) := HLJ.out.cell 4
                by_cases heq : y.text = zzzM
                · rw [decide_eq_true heq] at hTT
                  clear heq
                  go_wp2_with fail
                  refine hA.mono ?_
                  rintro e w5 ⟨rfl, hb5⟩
                  have HE : Hid (IsTrue w (.returned (.bool true)) w5) := ⟨rfl, below_more HB2.out (below_more (below_more HBX.out HBJ.out) hb5)⟩
                  clear hA hb5
                  go_wp2
                  go_ret
                  exact HE.out
                · rw [decide_eq_false heq] at hTT
                  have HQ : Hid (∃ j' : Nat, Value.int .i64 ((j + 1 : Nat) : Int) = .int .i64 j' ∧ j' ≤ M ∧ Hid (NodTo (r.expr ++ r.cond) j') ∧ Below W.heap.size W WJ) := ⟨j + 1, rfl, hlt2, HD.out.succ HY.out heq, HBJ.out⟩
                  clear heq hA
                  go_wp2
                  go_roundw
                  case rel => exact HQ.out
                  case measure => simp [intOf]; omega
              · obtain rfl : j = M := by omega
                have hd : decide ((j : Int) < (j : Int)) = false := by simp
                have HQ : Hid (∃ k' : Nat, Value.int .i64 ((k + 1 : Nat) : Int) = .int .i64 k' ∧ k' ≤ n ∧ Hid (NoneTo rs k') ∧ Below w2.heap.size w2 wr) := ⟨k + 1, rfl, hlt, HNT.out.succ HXK.out (HD.out.all HLM.out), HBI.out⟩
                clear hb
                go_wp2
                go_roundw
                case rel => exact HQ.out
                case measure => simp [intOf]; omega
        · obtain rfl : k = n := by omega
          have hd : decide ((k : Int) < (k : Int)) = false := by simp
          have HAL := Lib.hid (HNT.out.all HN.out)
          have HVW := Lib.hid (HV2.out.below hb HV2.out.lt)
          have HXW := Lib.hid (HX2.out.below hb HX2.out.lt)
          clear hb
          obtain ⟨nv, lv, ef, _, _, _, hSn, hnt, _, vs, hSl, hvl, _, hel⟩ := HV.out.parts
          have ef' : Value.slice V1 v.names.length e1 = nv ∧ Value.slice V2 v.list.length e2 = lv := by
            injection ef with ef
            simp at ef
            exact ef
          obtain ⟨rfl, rfl⟩ := ef'
          have HSN := Lib.hid hSn
          have HNT2 := Lib.hid hnt
          have HSL := Lib.hid hSl
          have HVL := Lib.hid hvl
          have HEL := Lib.hid hel
          clear ef hSn hnt hSl hvl hel
          go_upto_region 14 with (fail)
          refine wp_region_slotsA (by kernel_rfl) (NamI wo.heap.size wo) (NamF wo.heap.size w.heap.size (.slice V1 v.names.length e1) (.slice V2 v.list.length e2) zzzM v.names v.names.length v.list.length [.int .i64 x.kind, .bool x.bool, .int .i64 x.int, .string (strOf x.text), .slice X1 x.names.length f1, .slice X2 x.list.length f2] (vs.flatMap jcells)) ⟨(Below.refl _ _).drew, fun h => by simp at h, fun h => by simp at h, fun h => by simp at h, fun h => by simp at h, fun h => by simp at h⟩ (by kernel_rfl) ?step ?fin
          case step =>
            intro i o ho listed a W hinv hun hall K' hK
            have hIs : wo.heap.size ≤ W.heap.size := hinv.world.1.size
            match i, ho with
            | 0, ho =>
              obtain rfl := oper_at ho rfl
              have E1 : a.tmps[7]? = some (.string { data := #[122, 122, 122] }) := hinv.old 7 (by simp)
              refine slot_value rfl (w' := W) (v := .string { data := #[122, 122, 122] }) ?_ ?_
              · go_simp
              · exact hK _ _ (hinv.world.pure (Below.refl _ _) hIs (by decide) (put_other (by decide)) (put_other (by decide)) (put_other (by decide)) (put_other (by decide))) rfl (fun j u _ => NamF.on (by decide) (Below.refl _ _) j u)
            | 1, ho =>
              obtain rfl := oper_at ho rfl
              obtain ⟨u0, E0, hv0⟩ := hinv.arg 0 _ 65 rfl (hall ⟨0, .data⟩ (by simp) rfl) rfl
              obtain rfl : u0 = .string (strOf zzzM) := hv0
              have hb := below_new W (.cells #[.string (strOf zzzM)] 9)
              refine slot_value rfl (w' := W.alloc (.cells #[.string (strOf zzzM)] 9)) (v := .slice (some ⟨W.heap.size, 0, none⟩) 1 1) ?_ ?_
              · go_simp
              · exact hK _ _ (hinv.world.pure hb hIs (by decide) (put_other (by decide)) (put_other (by decide)) (put_other (by decide)) (put_other (by decide))) (.inr ⟨rfl, .inr ⟨W.heap.size, 1, #[.string (strOf zzzM)], rfl, hIs, heap_alloc_new W _, Nat.le_refl _, by decide, rfl, rfl⟩⟩) (fun j u _ => NamF.on (by decide) hb j u)
            | 2, ho =>
              obtain rfl := oper_at ho rfl
              have E1 : a.tmps[4]? = some (.pointer (some ⟨w.heap.size, 0, none⟩)) := hinv.old 4 (by simp)
              refine slot_value rfl (w' := W) (v := .pointer (some ⟨w.heap.size, 4, none⟩)) ?_ ?_
              · go_simp
              · exact hK _ _ (hinv.world.pure (Below.refl _ _) hIs (by decide) (put_other (by decide)) (put_other (by decide)) (put_other (by decide)) (put_other (by decide))) rfl (fun j u _ => NamF.on (by decide) (Below.refl _ _) j u)
            | 3, ho =>
              obtain rfl := oper_at ho rfl
              obtain ⟨u0, E0, hv0⟩ := hinv.arg 2 _ 67 rfl (hall ⟨2, .data⟩ (by simp) rfl) rfl
              obtain rfl : u0 = .pointer (some ⟨w.heap.size, 4, none⟩) := hv0
              have y1 : W.cell? ⟨w.heap.size, 4, none⟩ = some (.slice V1 v.names.length e1) := (HVW.out.below hinv.world.1 HVW.out.lt).cell 4
              refine slot_value rfl (w' := W) (v := .slice V1 v.names.length e1) ?_ ?_
              · go_simp
              · exact hK _ _ (hinv.world.pure (Below.refl _ _) hIs (by decide) (put_other (by decide)) (put_other (by decide)) (put_other (by decide)) (put_other (by decide))) rfl (fun j u _ => NamF.on (by decide) (Below.refl _ _) j u)
            | 4, ho =>
              obtain rfl := oper_at ho rfl
              obtain ⟨hI1, h41, h96, h10, h12, hT⟩ := hinv.world
              obtain ⟨u0, E0, hv0⟩ := hinv.arg 1 _ 66 rfl (hall ⟨1, .data⟩ (by simp) rfl) rfl
              obtain ⟨u1, E1, hv1⟩ := hinv.arg 3 _ 68 rfl (hall ⟨3, .data⟩ (by simp) rfl) rfl
              obtain rfl : u1 = .slice V1 v.names.length e1 := hv1
              have hown : W.ownsRow wo.heap.size 9 1 u0 1 (tcells [zzzM]) := hv0.resolve_left (fun e => by rw [hun] at e; cases e)
              have hbw := below_more HBW.out hI1
              obtain ⟨A6, c6, W6, hr, h2, h3⟩ := texts_append (ms := v.names) 24 hown (HSN.out.on hbw) rfl (by have := HSF.out.2; omega) hIs
              rw [Nat.add_comm 1] at hr h2
              refine slot_value rfl (w' := W6) (v := .slice A6 (v.names.length + 1) c6) ?_ ?_
              · simp [execOp, resolve, invoke, builtin, Act.eval, E0, E1, hr, Result.andThen]
              refine hK _ _ ⟨hI1.grown h3 hIs (fun k e => (hown.lt k e).1), fun _ => getD_mono (listed_of (hall ⟨1, .data⟩ (by simp) rfl)), fun e => getD_mono (h96 (getD_of (by decide) e)), fun e => ⟨getD_set_self _ _, getD_mono (h10 (getD_of (by decide) e)).2⟩, fun e => ⟨getD_mono (h12 (getD_of (by decide) e)).1, getD_mono (h12 (getD_of (by decide) e)).2⟩, hT.pure (by decide) (put_other (by decide)) (put_other (by decide)) (put_other (by decide)) (put_other (by decide))⟩ ⟨A6, c6, rfl, h2⟩ ?_
              intro j u hsl hu
              match j, hu, hsl with
              | 0, hu, _ => exact hu
              | 1, _, _ => exact .inl (getD_set_self _ _)
              | 2, hu, _ => exact hu
              | 3, hu, _ => exact hu
              | 4, _, ⟨_, _, _, hl, _⟩ => rw [hun] at hl; cases hl
              | 5, hu, _ => exact hu
              | 6, hu, _ => exact hu.elim (fun h => .inl (getD_mono h)) (fun h => .inr (h.kept h3 (apart_l (own_apartT (by decide) hown h))))
              | 7, hu, _ => exact hu
              | 8, hu, _ => exact hu
              | 9, ⟨A, c, e, h⟩, _ => exact ⟨A, c, e, h.kept h3 (apart_l (own_apartT (by decide) hown h))⟩
              | 10, _, ⟨_, _, _, hl, _⟩ => have := (h10 hl).1; rw [hun] at this; cases this
              | 11, ⟨Z, k1, k2, k3, k4, k5⟩, _ => exact ⟨Z, k1, k2, Nat.lt_of_lt_of_le k3 h3.size, fun e => (k4 (getD_of (by decide) e)).grown h3 (fun e' => own_apartL (by decide) hown (k4 (getD_of (by decide) e)) e'.symm), fun e => by
                  have := (h10 (h12 (getD_of (by decide) e)).1).1
                  rw [hun] at this; cases this⟩
              | j + 12, _, _ => exact trivial
            | 5, ho =>
              obtain rfl := oper_at ho rfl
              have E1 : a.tmps[5]? = some (.pointer (some ⟨w.heap.size + 1, 0, none⟩)) := hinv.old 5 (by simp)
              obtain ⟨⟨z0, z1, z2, z3, z4, z5⟩, _⟩ := (HXW.out.below hinv.world.1 HXW.out.lt).six
              refine slot_value rfl (w' := W) (v := .agg #[.int .i64 x.kind, .bool x.bool, .int .i64 x.int, .string (strOf x.text), .slice X1 x.names.length f1, .slice X2 x.list.length f2]) ?_ ?_
              · go_simp
              · exact hK _ _ (hinv.world.pure (Below.refl _ _) hIs (by decide) (put_other (by decide)) (put_other (by decide)) (put_other (by decide)) (put_other (by decide))) rfl (fun j u _ => NamF.on (by decide) (Below.refl _ _) j u)
            | 6, ho =>
              obtain rfl := oper_at ho rfl
              obtain ⟨hI1, h41, h96, h10, h12, hT⟩ := hinv.world
              obtain ⟨u0, E0, hv0⟩ := hinv.arg 5 _ 70 rfl (hall ⟨5, .data⟩ (by simp) rfl) rfl
              obtain rfl : u0 = .agg #[.int .i64 x.kind, .bool x.bool, .int .i64 x.int, .string (strOf x.text), .slice X1 x.names.length f1, .slice X2 x.list.length f2] := hv0
              have hb := below_new W (.cells #[.int .i64 x.kind, .bool x.bool, .int .i64 x.int, .string (strOf x.text), .slice X1 x.names.length f1, .slice X2 x.list.length f2] 27)
              have h71 : 71 < a.tmps.size := by rw [hinv.size]; exact (by decide : 71 < 99)
              refine slot_value rfl (w' := W.alloc (.cells #[.int .i64 x.kind, .bool x.bool, .int .i64 x.int, .string (strOf x.text), .slice X1 x.names.length f1, .slice X2 x.list.length f2] 27)) (v := .slice (some ⟨W.heap.size, 0, none⟩) 1 1) ?_ ?_
              · go_simp
              refine hK _ _ ⟨hI1.trans (hb.mono hIs), fun e => getD_mono (h41 (getD_of (by decide) e)), fun _ => getD_set_self _ _, fun e => ⟨getD_mono (h10 (getD_of (by decide) e)).1, getD_mono (h10 (getD_of (by decide) e)).2⟩, fun e => ⟨getD_mono (h12 (getD_of (by decide) e)).1, getD_mono (h12 (getD_of (by decide) e)).2⟩, ?_⟩ (.inr ⟨rfl, .inr ⟨W.heap.size, 1, #[.int .i64 x.kind, .bool x.bool, .int .i64 x.int, .string (strOf x.text), .slice X1 x.names.length f1, .slice X2 x.list.length f2], rfl, hIs, heap_alloc_new W _, Nat.le_refl _, by decide, rfl, rfl⟩⟩) (fun j u _ => NamF.on (by decide) hb j u)
              intro h11 Z hZ
              replace hZ := (put_other (a := a) (d := 71) (s := 12) (by decide)).symm.trans hZ
              obtain ⟨uz, Ez, Z', rfl, _, hlt, _⟩ := hinv.slot 11 _ 12 rfl (getD_of (by decide) h11) rfl
              rw [Ez] at hZ
              obtain rfl : Z' = Z := by simpa using hZ
              refine ⟨fun _ _ q hq e => ?_, fun g9 => ?_, fun g10 => ?_⟩
              · replace hq := (put_self (a := a) h71).symm.trans hq
                injection hq with hq
                subst hq
                have e : W.heap.size = Z' := by simpa [Value.ownBlock] using e
                omega
              · have := h96 (getD_of (by decide) g9)
                rw [hun] at this; cases this
              · have := h96 (h10 (getD_of (by decide) g10)).2
                rw [hun] at this; cases this
            | 7, ho =>
              obtain rfl := oper_at ho rfl
              have E1 : a.tmps[4]? = some (.pointer (some ⟨w.heap.size, 0, none⟩)) := hinv.old 4 (by simp)
              refine slot_value rfl (w' := W) (v := .pointer (some ⟨w.heap.size, 5, none⟩)) ?_ ?_
              · go_simp
              · exact hK _ _ (hinv.world.pure (Below.refl _ _) hIs (by decide) (put_other (by decide)) (put_other (by decide)) (put_other (by decide)) (put_other (by decide))) rfl (fun j u _ => NamF.on (by decide) (Below.refl _ _) j u)
            | 8, ho =>
              obtain rfl := oper_at ho rfl
              obtain ⟨u0, E0, hv0⟩ := hinv.arg 7 _ 72 rfl (hall ⟨7, .data⟩ (by simp) rfl) rfl
              obtain rfl : u0 = .pointer (some ⟨w.heap.size, 5, none⟩) := hv0
              have y1 : W.cell? ⟨w.heap.size, 5, none⟩ = some (.slice V2 v.list.length e2) := (HVW.out.below hinv.world.1 HVW.out.lt).cell 5
              refine slot_value rfl (w' := W) (v := .slice V2 v.list.length e2) ?_ ?_
              · go_simp
              · exact hK _ _ (hinv.world.pure (Below.refl _ _) hIs (by decide) (put_other (by decide)) (put_other (by decide)) (put_other (by decide)) (put_other (by decide))) rfl (fun j u _ => NamF.on (by decide) (Below.refl _ _) j u)
            | 9, ho =>
              obtain rfl := oper_at ho rfl
              obtain ⟨hI1, h41, h96, h10, h12, hT⟩ := hinv.world
              obtain ⟨u0, E0, hv0⟩ := hinv.arg 6 _ 71 rfl (hall ⟨6, .data⟩ (by simp) rfl) rfl
              obtain ⟨u1, E1, hv1⟩ := hinv.arg 8 _ 73 rfl (hall ⟨8, .data⟩ (by simp) rfl) rfl
              obtain rfl : u1 = .slice V2 v.list.length e2 := hv1
              have l6 := listed_of (hall ⟨6, .data⟩ (by simp) rfl)
              have hown : W.ownsRow wo.heap.size 27 6 u0 1 [.int .i64 x.kind, .bool x.bool, .int .i64 x.int, .string (strOf x.text), .slice X1 x.names.length f1, .slice X2 x.list.length f2] := hv0.resolve_left (fun e => by rw [hun] at e; cases e)
              have hbw := below_more HBW.out hI1
              have h74 : 74 < a.tmps.size := by rw [hinv.size]; exact (by decide : 74 < 99)
              obtain ⟨A6, c6, W6, hr, h2, h3, h4⟩ := jsons_append 25 hown (HSL.out.on hbw) HVL.out rfl (fun i v x e1 e2 => (HEL.out i v x e1 e2).on hbw) (by have := HSF.out.1; omega) hIs
              rw [Nat.add_comm 1] at hr h2 h4
              refine slot_value rfl (w' := W6) (v := .slice A6 (v.list.length + 1) c6) ?_ ?_
              · simp [execOp, resolve, invoke, builtin, Act.eval, E0, E1, hr, Result.andThen]
              refine hK _ _ ⟨hI1.grown h3 hIs (fun k e => (hown.lt k e).1), fun e => getD_mono (h41 (getD_of (by decide) e)), fun _ => getD_mono l6, fun e => ⟨getD_mono (h10 (getD_of (by decide) e)).1, getD_set_self _ _⟩, fun e => ⟨getD_mono (h12 (getD_of (by decide) e)).1, getD_mono (h12 (getD_of (by decide) e)).2⟩, ?_⟩ ⟨A6, c6, rfl, h2⟩ ?_
              · intro h11 Z hZ
                replace hZ := (put_other (a := a) (d := 74) (s := 12) (by decide)).symm.trans hZ
                have l11 := getD_of (by decide) h11
                obtain ⟨k1, k2, k3⟩ := hT l11 Z hZ
                obtain ⟨uz, Ez, Z', rfl, _, hlt, _⟩ := hinv.slot 11 _ 12 rfl l11 rfl
                rw [Ez] at hZ
                obtain rfl : Z' = Z := by simpa using hZ
                refine ⟨fun _ g9 => (by rw [getD_set_self] at g9; cases g9), fun _ q hq e => ?_, fun g10 => ?_⟩
                · replace hq := (put_self (a := a) h74).symm.trans hq
                  injection hq with hq
                  subst hq
                  rcases h4 with h4 | h4
                  · exact k1 l6 hun u0 E0 (h4.symm.trans e)
                  · rw [h4] at e
                    injection e with e
                    omega
                · have := (h10 (getD_of (by decide) g10)).2
                  rw [hun] at this; cases this
              intro j u hsl hu
              match j, hu, hsl with
              | 0, hu, _ => exact hu
              | 1, hu, _ => exact hu.elim (fun h => .inl (getD_mono h)) (fun h => .inr (h.kept h3 (apart_n (own_apartT (by decide) h hown))))
              | 2, hu, _ => exact hu
              | 3, hu, _ => exact hu
              | 4, ⟨A, c, e, h⟩, _ => exact ⟨A, c, e, h.kept h3 (apart_n (own_apartT (by decide) h hown))⟩
              | 5, hu, _ => exact hu
              | 6, _, _ => exact .inl (getD_set_self _ _)
              | 7, hu, _ => exact hu
              | 8, hu, _ => exact hu
              | 9, _, ⟨_, _, _, hl, _⟩ => rw [hun] at hl; cases hl
              | 10, _, ⟨_, _, _, hl, _⟩ => have := (h10 hl).2; rw [hun] at this; cases this
              | 11, ⟨Z, k1, k2, k3, k4, k5⟩, ⟨o', d, g1, hl, g2, g3⟩ =>
                obtain rfl := oper_at g1 rfl
                obtain rfl : d = 12 := by injection g2 with g2; exact g2.symm
                rw [k1] at g3
                have hne := (hT hl Z g3).1 l6 hun u0 E0
                exact ⟨Z, k1, k2, Nat.lt_of_lt_of_le k3 h3.size, fun e => (k4 (getD_of (by decide) e)).grown h3 (fun e' => hne e'.symm), fun e => by
                  have := (h10 (h12 (getD_of (by decide) e)).1).2
                  rw [hun] at this; cases this⟩
              | j + 12, _, _ => exact trivial
            | 10, ho =>
              obtain rfl := oper_at ho rfl
              obtain ⟨hI1, h41, h96, h10, h12, hT⟩ := hinv.world
              have l4 := listed_of (hall ⟨4, .data⟩ (by simp) rfl)
              have l9 := listed_of (hall ⟨9, .data⟩ (by simp) rfl)
              obtain ⟨u0, E0, A5, c5, rfl, k5⟩ := hinv.arg 4 _ 69 rfl (hall ⟨4, .data⟩ (by simp) rfl) rfl
              obtain ⟨u1, E1, A6, c6, rfl, k6⟩ := hinv.arg 9 _ 74 rfl (hall ⟨9, .data⟩ (by simp) rfl) rfl
              have h75 : 75 < a.tmps.size := by rw [hinv.size]; exact (by decide : 75 < 99)
              refine slot_call rfl (f := 14) (args := #[.slice A5 (v.names.length + 1) c5, .slice A6 (v.list.length + 1) c6]) ?_ (refObject_any A5 A6 (v.names.length + 1) (v.list.length + 1) c5 c6 W) ?_
              · go_simp
              rintro e w' ⟨rfl, hb⟩
              refine ⟨_, rfl, hK _ _ ⟨hI1.trans (hb.mono hIs), fun e => getD_mono (h41 (getD_of (by decide) e)), fun e => getD_mono (h96 (getD_of (by decide) e)), fun _ => ⟨getD_mono l4, getD_mono l9⟩, fun e => ⟨getD_set_self _ _, getD_mono (h12 (getD_of (by decide) e)).2⟩, ?_⟩ ⟨A5, c5, A6, c6, rfl, own_below k5 hb, own_below k6 hb⟩ (fun j u _ => NamF.on (by decide) hb j u)⟩
              intro h11 Z hZ
              replace hZ := (put_other (a := a) (d := 75) (s := 12) (by decide)).symm.trans hZ
              obtain ⟨k1, k2, k3⟩ := hT (getD_of (by decide) h11) Z hZ
              refine ⟨fun _ g9 => ?_, fun g9 q hq => k2 l9 q ((put_other (a := a) (d := 75) (s := 74) (by decide)).symm.trans hq), fun _ nv lv hq => ?_⟩
              · rw [getD_mono l9] at g9; cases g9
              · replace hq := (put_self (a := a) h75).symm.trans hq
                injection hq with hq
                obtain rfl : Value.slice A6 (v.list.length + 1) c6 = lv := by injection hq with hq; simp at hq; exact hq.2
                exact k2 l9 _ E1
            | 11, ho =>
              obtain rfl := oper_at ho rfl
              obtain ⟨hI1, h41, h96, h10, h12, hT⟩ := hinv.world
              have hb := below_new W zobjD
              have n12 : listed.getD 12 true = false := by
                cases h : listed.getD 12 true with
                | false => rfl
                | true => have := (h12 h).2; rw [hun] at this; cases this
              have h12s : 12 < a.tmps.size := by rw [hinv.size]; exact (by decide : 12 < 99)
              refine slot_value rfl (w' := W.alloc zobjD) (v := .pointer (some ⟨W.heap.size, 0, none⟩)) ?_ ?_
              · go_simp
              refine hK _ _ ⟨hI1.trans (hb.mono hIs), fun e => getD_mono (h41 (getD_of (by decide) e)), fun e => getD_mono (h96 (getD_of (by decide) e)), fun e => ⟨getD_mono (h10 (getD_of (by decide) e)).1, getD_mono (h10 (getD_of (by decide) e)).2⟩, fun e => (by rw [getD_of (by decide) e] at n12; cases n12), ?_⟩ ⟨W.heap.size, rfl, hIs, by simp, fun _ => Lies.new_ rfl, fun e => by rw [getD_of (by decide) e] at n12; cases n12⟩ (fun j u _ => NamF.on (by decide) hb j u)
              intro _ Z hZ
              replace hZ := (put_self (a := a) h12s).symm.trans hZ
              obtain rfl : W.heap.size = Z := by simpa using hZ
              refine ⟨fun g6 g9 q hq e => ?_, fun g9 q hq e => ?_, fun g10 nv lv hq e => ?_⟩
              · replace hq := (put_other (a := a) (d := 12) (s := 71) (by decide)).symm.trans hq
                obtain ⟨u, Eu, hu⟩ := hinv.slot 6 _ 71 rfl (getD_of (by decide) g6) rfl
                rw [Eu] at hq
                injection hq with hq
                subst hq
                have := ((hu.resolve_left (fun h => by rw [getD_of (by decide) g9] at h; cases h)).lt _ e).2
                omega
              · replace hq := (put_other (a := a) (d := 12) (s := 74) (by decide)).symm.trans hq
                obtain ⟨u, Eu, A6, c6, rfl, hu⟩ := hinv.slot 9 _ 74 rfl (getD_of (by decide) g9) rfl
                rw [Eu] at hq
                injection hq with hq
                subst hq
                have := (hu.lt _ e).2
                omega
              · replace hq := (put_other (a := a) (d := 12) (s := 75) (by decide)).symm.trans hq
                obtain ⟨u, Eu, A5, c5, A6, c6, rfl, hu⟩ := hinv.slot 10 _ 75 rfl (getD_of (by decide) g10) rfl
                rw [Eu] at hq
                injection hq with hq
                obtain rfl : Value.slice A6 (v.list.length + 1) c6 = lv := by injection hq with hq; simp at hq; exact hq.2
                have := (hu.2.lt _ e).2
                omega
            | 12, ho =>
              obtain rfl := oper_at ho rfl
              obtain ⟨hI1, h41, h96, h10, h12, hT⟩ := hinv.world
              have l10 := listed_of (hall ⟨10, .data⟩ (by simp) rfl)
              have l11 := listed_of (hall ⟨11, .data⟩ (by simp) rfl)
              have l9 := (h10 l10).2
              have l4 := (h10 l10).1
              obtain ⟨u0, E0, A5, c5, A6, c6, rfl, hR⟩ := hinv.arg 10 _ 75 rfl (hall ⟨10, .data⟩ (by simp) rfl) rfl
              obtain ⟨uz, E1, Z, rfl, hBZ, hZW, hz, _⟩ := hinv.arg 11 _ 12 rfl (hall ⟨11, .data⟩ (by simp) rfl) rfl
              obtain ⟨k1, k2, k3⟩ := hT l11 Z E1
              have hzp := hz hun
              obtain ⟨⟨x0, x1, x2, x3, x4, x5⟩, g0, g1, g2, g3, g4, g5⟩ := hzp.six
              have hg6 : W.grownBy (put6 W Z (.int .i64 5) (.bool false) (.int .i64 0) (.string ByteArray.empty) (.slice A5 (v.names.length + 1) c5) (.slice A6 (v.list.length + 1) c6)) (some Z) := gb_put6
              have kR : ∀ nv lv, NamR wo.heap.size v.names.length v.list.length (zzzM :: v.names) ([.int .i64 x.kind, .bool x.bool, .int .i64 x.int, .string (strOf x.text), .slice X1 x.names.length f1, .slice X2 x.list.length f2] ++ vs.flatMap jcells) nv lv W → lv.ownBlock ≠ some Z → NamR wo.heap.size v.names.length v.list.length (zzzM :: v.names) ([.int .i64 x.kind, .bool x.bool, .int .i64 x.int, .string (strOf x.text), .slice X1 x.names.length f1, .slice X2 x.list.length f2] ++ vs.flatMap jcells) nv lv (put6 W Z (.int .i64 5) (.bool false) (.int .i64 0) (.string ByteArray.empty) (.slice A5 (v.names.length + 1) c5) (.slice A6 (v.list.length + 1) c6)) := fun nv lv h hne => ⟨h.1.kept hg6 (.inr (own_apartL (by decide) h.1 hzp)), h.2.kept hg6 (.inr hne)⟩
              refine slot_skip rfl (w' := put6 W Z (.int .i64 5) (.bool false) (.int .i64 0) (.string ByteArray.empty) (.slice A5 (v.names.length + 1) c5) (.slice A6 (v.list.length + 1) c6)) ?_ ?_
              · go_simp
              refine hK undef _ ⟨hI1.trans (gb_down hg6 hIs hBZ), fun _ => getD_mono (h41 l4), fun _ => getD_mono (h96 l9), fun _ => ⟨getD_mono l4, getD_mono l9⟩, fun _ => ⟨getD_mono l10, getD_mono l11⟩, hT.pure (by decide) put_none put_none put_none put_none⟩ trivial ?_
              intro j u hsl hu
              match j, hu, hsl with
              | 0, hu, _ => exact hu
              | 1, _, _ => exact .inl (getD_mono l4)
              | 2, hu, _ => exact hu
              | 3, hu, _ => exact hu
              | 4, ⟨A, c, e, h⟩, _ => exact ⟨A, c, e, h.kept hg6 (.inr (own_apartL (by decide) h hzp))⟩
              | 5, hu, _ => exact hu
              | 6, _, _ => exact .inl (getD_mono l9)
              | 7, hu, _ => exact hu
              | 8, hu, _ => exact hu
              | 9, ⟨A, c, e, h⟩, ⟨o', d, q1, _, q2, q3⟩ =>
                obtain rfl := oper_at q1 rfl
                obtain rfl : d = 74 := by injection q2 with q2; exact q2.symm
                exact ⟨A, c, e, h.kept hg6 (.inr (k2 l9 u q3))⟩
              | 10, ⟨A, c, A', c', e, h⟩, ⟨o', d, q1, _, q2, q3⟩ =>
                obtain rfl := oper_at q1 rfl
                obtain rfl : d = 75 := by injection q2 with q2; exact q2.symm
                rw [e] at q3
                exact ⟨A, c, A', c', e, kR _ _ h (k3 l10 _ _ q3)⟩
              | 11, _, ⟨o', d, q1, _, q2, q3⟩ =>
                obtain rfl := oper_at q1 rfl
                obtain rfl : d = 12 := by injection q2 with q2; exact q2.symm
                rw [E1] at q3
                obtain rfl : u = .pointer (some ⟨Z, 0, none⟩) := by injection q3 with q3; exact q3.symm
                exact ⟨Z, rfl, hBZ, Nat.lt_of_lt_of_le hZW hg6.size, (fun e => by rw [getD_set_self] at e; cases e), fun _ => ⟨A5, c5, A6, c6, hzp.put6, kR _ _ hR (k3 l10 _ _ E0)⟩⟩
              | j + 12, _, _ => exact trivial
            | i + 13, ho => simp at ho
          case fin =>
            intro listed a W hinv hall
            have hI1 := hinv.world.1
            obtain ⟨u0, E0, _⟩ := hinv.slot 0 _ 65 rfl (hall 0) rfl
            obtain ⟨u1, E1, _⟩ := hinv.slot 1 _ 66 rfl (hall 1) rfl
            obtain ⟨u2, E2, _⟩ := hinv.slot 2 _ 67 rfl (hall 2) rfl
            obtain ⟨u3, E3, _⟩ := hinv.slot 3 _ 68 rfl (hall 3) rfl
            obtain ⟨u4, E4, _⟩ := hinv.slot 4 _ 69 rfl (hall 4) rfl
            obtain ⟨u5, E5, _⟩ := hinv.slot 5 _ 70 rfl (hall 5) rfl
            obtain ⟨u6, E6, _⟩ := hinv.slot 6 _ 71 rfl (hall 6) rfl
            obtain ⟨u7, E7, _⟩ := hinv.slot 7 _ 72 rfl (hall 7) rfl
            obtain ⟨u8, E8, _⟩ := hinv.slot 8 _ 73 rfl (hall 8) rfl
            obtain ⟨u9, E9, _⟩ := hinv.slot 9 _ 74 rfl (hall 9) rfl
            obtain ⟨u10, E10, _⟩ := hinv.slot 10 _ 75 rfl (hall 10) rfl
            obtain ⟨u11, E11, Z, rfl, _, _, _, hz⟩ := hinv.slot 11 _ 12 rfl (hall 11) rfl
            obtain ⟨A5, c5, A6, c6, hzl, hR5⟩ := hz (hall 12)
            have ha := hinv.sets [(65, u0), (66, u1), (67, u2), (68, u3), (69, u4), (70, u5), (71, u6), (72, u7), (73, u8), (74, u9), (75, u10), (12, .pointer (some ⟨Z, 0, none⟩))] (by simp [E0, E1, E2, E3, E4, E5, E6, E7, E8, E9, E10, E11]) (by kernel_rfl)
            simp only [List.foldl_cons, List.foldl_nil, List.setIfInBounds_toArray, List.set_cons_zero, List.set_cons_succ] at ha
            subst ha
            clear hinv hall hz E0 E1 E2 E3 E4 E5 E6 E7 E8 E9 E10 E11
            have hbW := below_more HBW.out hI1
            have hJW := NamR.isJ (xv := jv x.kind x.bool x.int (strOf x.text) (.slice X1 x.names.length f1) (.slice X2 x.list.length f2)) hR5 rfl rfl (by have := HSF.out.2; omega) (by have := HSF.out.1; omega) (by decide) HNT2.out (HX.out.on hbW) HVL.out (fun i v x e1 e2 => (HEL.out i v x e1 e2).on hbW)
            have hvW := HVW.out.below hI1 HVW.out.lt
            obtain ⟨⟨y, ef⟩, eY⟩ : ∃ p, Mq.runV S v rs = p := ⟨_, rfl⟩
            have hC := runM_any S rs A _ c v V1 V2 e1 e2 W (HH.out.below hbW) (HR.out.more hbW) HN.out (by omega) (HFW.out.rules HBB.out) (HV.out.on hbW)
            rw [eY] at hC
            have HBY := Lib.hid hbW
            have HJY := Lib.hid hJW
            have HZ := Lib.hid hzl
            have HEY := Lib.hid eY
            obtain ⟨⟨z0, z1, z2, z3, z4, z5⟩, _⟩ := hvW.six
            clear hI1 hR5 hzl hbW hJW hvW eY
            go_wp2_with fail
            refine hC.mono ?_
            rintro e w3 ⟨u, rfl, hJ, hb3⟩
            simp only at hJ
            clear hC z0 z1 z2 z3 z4 z5
            obtain ⟨Y1, y1, Y2, y2, rfl⟩ := hJ.form
            obtain ⟨W4, eW4⟩ : ∃ W4, W4 = w3.alloc (jbox y Y1 y1 Y2 y2) := ⟨_, rfl⟩
            have hb4 : Below w3.heap.size w3 W4 := by rw [eW4]; exact below_new _ _
            have hx4 : Lies W4 w3.heap.size 27 [.int .i64 y.kind, .bool y.bool, .int .i64 y.int, .string (strOf y.text), .slice Y1 y.names.length y1, .slice Y2 y.list.length y2] := by rw [eW4]; exact Lies.new_ rfl
            have hb24 := below_more hb3 hb4
            have HX4 := Lib.hid hx4
            have HJ4 := Lib.hid (hJ.on hb4)
            have HW4 := Lib.hid eW4
            have HB4 := Lib.hid (below_more HBY.out hb24)
            have hzl4 := HZ.out.below hb24 HZ.out.lt
            have hC : Calls Tryd.prog 15 #[.slice A k c, jv 5 false 0 ByteArray.empty (.slice A5 (v.names.length + 1) c5) (.slice A6 (v.list.length + 1) c6)] W4 (RunE (y, ef) W4) := by
              have h := runM_any S rs A _ c (Jq.objJ (zzzM :: v.names) (x :: v.list)) A5 A6 c5 c6 W4 (HH.out.below HB4.out) (HR.out.more HB4.out) HN.out (by omega) (HFW.out.rules HBB.out) (HJY.out.on hb24)
              rw [← Mq.runV_alike S (fun s hs => Mq.get_more H5.out H6.out s hs) rs HAL.out, HEY.out] at h
              exact h
            obtain ⟨⟨x0, x1, x2, x3, x4, x5⟩, _⟩ := hzl4.six
            clear hJ hb3 hb4 hx4 hb24 hzl4 eW4
            go_upto_region 16 with (fail)
            rw [← HW4.out]
            go_wp2_with fail
            refine hC.mono ?_
            rintro e w5 ⟨u, rfl, hJ, hb5⟩
            simp only at hJ
            clear hC x0 x1 x2 x3 x4 x5
            obtain ⟨Q1, q1, Q2, q2, rfl⟩ := hJ.form
            obtain ⟨W6, eW6⟩ : ∃ W6, W6 = w5.alloc (jbox y Q1 q1 Q2 q2) := ⟨_, rfl⟩
            have hb6 : Below w5.heap.size w5 W6 := by rw [eW6]; exact below_new _ _
            have hx6 : Lies W6 w5.heap.size 27 [.int .i64 y.kind, .bool y.bool, .int .i64 y.int, .string (strOf y.text), .slice Q1 y.names.length q1, .slice Q2 y.list.length q2] := by rw [eW6]; exact Lies.new_ rfl
            have hb46 := below_more hb5 hb6
            have HX6 := Lib.hid hx6
            have HJ6 := Lib.hid (hJ.on hb6)
            have HW6 := Lib.hid eW6
            have HB6 := Lib.hid (below_more HB4.out hb46)
            have HX46 := Lib.hid (HX4.out.below hb46 HX4.out.lt)
            have HJ46 := Lib.hid (HJ4.out.on hb46)
            have hA := alive13_any W6 (HH.out.below HB6.out)
            clear hJ hb5 hb6 hx6 hb46 eW6
            go_upto_region 17 with (fail)
            rw [← HW6.out]
            go_wp2_with fail
            refine hA.mono ?_
            rintro e w7 ⟨rfl, hb7⟩
            clear hA
            obtain ⟨⟨x0, x1, x2, x3, x4, x5⟩, _⟩ := (HX46.out.below hb7 HX46.out.lt).six
            obtain ⟨⟨z0, z1, z2, z3, z4, z5⟩, _⟩ := (HX6.out.below hb7 HX6.out.lt).six
            have hS := refSame_any y y _ _ w7 (HJ46.out.on hb7) (HJ6.out.on hb7)
            have HB7 := Lib.hid (below_more HB6.out hb7)
            clear hb7
            go_wp2_with fail
            refine hS.mono ?_
            rintro e w8 ⟨hb8, hor⟩
            rcases hor with ⟨_, rfl⟩ | ⟨hne, _⟩
            rotate_left
            · exact absurd trivial hne
            have HE : Hid (IsTrue w (.returned (.bool true)) w8) := ⟨rfl, below_more HB7.out hb8⟩
            clear hS hb8 x0 x1 x2 x3 x4 x5 z0 z1 z2 z3 z4 z5
            go_wp2
            go_ret
            exact HE.out
end Go.Proofs.YtnbaajdcakjlmaaDoor
