/-
  The type of an expression: the document's Of.
-/
import Derived.Test.YtgoecghakiihpaaDoorKOf
import Derived.Test.YtgoecghakiihpaaDoorKMade
import Derived.Deep.DeepCutAuto
namespace Go.Proofs.YtgoecghakiihpaaDoor
open Go.RowKit

/-- An operand stands ahead of the node. -/
def ahead (ts : List Int) (k : Int) : Bool := decide (0 ≤ k) && decide (k < (ts.length : Int))
theorem ahead_yes {ts : List Int} {k : Int} (h : ahead ts k = true) : ∃ j : Nat, k = (j : Int) ∧ j < ts.length ∧ Tq.opnd ts k = ts.getD j 0 := by
  unfold ahead at h
  simp only [Bool.and_eq_true, decide_eq_true_eq] at h
  refine ⟨k.toNat, by omega, by omega, ?_⟩
  unfold Tq.opnd
  rw [if_pos h]
theorem ahead_no {ts : List Int} {k : Int} (h : ahead ts k = false) : Tq.opnd ts k = 0 := by
  unfold ahead at h
  refine Tq.opnd_none fun hh => ?_
  rw [decide_eq_true hh.1, decide_eq_true hh.2] at h
  exact absurd h (by decide)
set_option maxHeartbeats 2000000 in
set_option maxRecDepth 100000 in
theorem refOf_any {ok ok' : Nat → Prop} (ns : List Zq.Nd) (fs : List Tq.Fd) (A A' : Option Addr) (m c n c' : Nat) (w : World) (hN : NsE w ok' (.slice A' n c') ns) (hns : ns.length = n) (hsz : n * 48 ≤ 140737488355328) (hF : FsE w ok (.slice A m c) fs) (hfs : fs.length = m) :
    Calls Tryd.prog 9 #[.slice A' n c', .slice A m c] w fun e w' => Below w.heap.size w w' ∧ e = .returned (typeV (Tq.of fs ns)) := by
  obtain ⟨P, eP⟩ : ∃ P, Tq.of fs ns = P := ⟨_, rfl⟩
  have HP := Lib.hid eP
  have HN := Lib.hid hN
  have HNS := Lib.hid hns
  have HF := Lib.hid hF
  have HFS := Lib.hid hfs
  rw [eP]
  clear hN hns hF hfs eP
  go_enter Tryd.func9, Tryd.ntmps9
  go_wp2_with fail
  go_loopw [6, 7] (fun kv i wr => ∃ (k : Nat) (ts : List Int), i = .int .i64 k ∧ k ≤ n ∧ wr.ownsRow w.heap.size 3 1 kv k (ints ts) ∧ Hid (Known fs ns k ts) ∧ Below w.heap.size w wr) (fun _ i _ => n - (intOf i).toNat)
  case atStart => exact ⟨0, [], rfl, Nat.zero_le _, World.ownsRow_nil _ _ _ _, Lib.hid (Known.zero _ _), Below.refl _ _⟩
  case round =>
    obtain ⟨k, ts, rfl, hk, hown, HKN, hb⟩ := hrel
    obtain ⟨A1, c1, rfl⟩ := own_slice hown
    by_cases hlt : k < n
    · obtain ⟨b, off, ⟨xop, xint, xa, xb, xt⟩, rfl, _, _, hx, hxn, s0, s1, s2, s3, s4⟩ := (HN.out.more hb).elem (i := k) (by rw [HNS.out]; exact hlt)
      simp only at hxn s0 s1 s2 s3 s4
      obtain ⟨W2, eW2⟩ : ∃ W2, W2 = wr.alloc (.cells #[.int .i64 xop, .int .i64 xint, .int .i64 xa, .int .i64 xb, .string (strOf xt)] 41) := ⟨_, rfl⟩
      have hb2 : Below wr.heap.size wr W2 := by rw [eW2]; exact below_new _ _
      have hbW := below_onZ hb hb2
      have hown2 := own_below hown hb2
      have hl2 : Lies W2 wr.heap.size 41 [.int .i64 xop, .int .i64 xint, .int .i64 xa, .int .i64 xb, .string (strOf xt)] := by rw [eW2]; exact Lies.new_ rfl
      obtain ⟨z0, z1, z2, z3, z4⟩ := hl2.fiveK
      have HX := Lib.hid hx
      have HXN := Lib.hid hxn
      have HOWN := Lib.hid hown2
      have HBW := Lib.hid hbW
      have HL2 := Lib.hid hl2
      have HW2 := Lib.hid eW2
      have hlen : ts.length = k := HKN.out.1
      obtain ⟨KA, eKA⟩ : ∃ b, ahead ts xa = b := ⟨_, rfl⟩
      obtain ⟨KB, eKB⟩ : ∃ b, ahead ts xb = b := ⟨_, rfl⟩
      have HKA := Lib.hid eKA
      have HKB := Lib.hid eKB
      have HLEN := Lib.hid hlen
      obtain ⟨pa, epa⟩ : ∃ p, Tq.opnd ts xa = p := ⟨_, rfl⟩
      obtain ⟨pb, epb⟩ : ∃ p, Tq.opnd ts xb = p := ⟨_, rfl⟩
      have HPA := Lib.hid epa
      have HPB := Lib.hid epb
      rw [eW2] at z0 z1 z2 z3 z4
      clear hx hxn hown hown2 hb hb2 hbW hl2 eW2 eKA eKB hlen epa epb
      go_upto_region 8 with (fail)
      rw [← HW2.out] at z0 z1 z2 z3 z4 ⊢
      clear s0 s1 s2 s3 s4
      go_cut [30] (fun v wx => v = .bool KA ∧ wx = W2)
      case first =>
        by_cases h1 : 0 ≤ xa
        · have d1 : decide (0 ≤ xa) = true := decide_eq_true h1
          have HQ : Hid (decide (xa < (k : Int)) = KA) := by unfold Hid; rw [← HKA.out, ahead, d1, Bool.true_and, HLEN.out]
          go_wp2_with fail
          go_meet
          exact ⟨congrArg Value.bool HQ.out, rfl⟩
        · have d1 : decide (0 ≤ xa) = false := decide_eq_false h1
          have HQ : Hid (false = KA) := by unfold Hid; rw [← HKA.out, ahead, d1, Bool.false_and]
          go_wp2_with fail
          go_meet
          exact ⟨congrArg Value.bool HQ.out, rfl⟩
      case rest =>
      obtain ⟨e8, ewc⟩ := hcut
      subst e8
      rw [ewc]
      clear ewc
      go_upto_if 30 with (fail)
      go_cut [9] (fun v wx => v = .int .i64 pa ∧ wx = W2)
      case first =>
        cases KA with
        | true =>
          obtain ⟨j, ej, hj, hop⟩ := ahead_yes HKA.out
          subst ej
          obtain ⟨b2, off2, c2, ev, hat⟩ := own_at HOWN.out (k := j) (by rw [← HLEN.out]; exact hj)
          injection ev with e1 _ e3
          subst e1 e3
          have hc := hat _ (ints_at hj)
          rw [← hop, HPA.out] at hc
          have hjk : j < k := by rw [← HLEN.out]; exact hj
          clear hat hop
          go_wp2_with fail
          go_meet
          exact ⟨rfl, rfl⟩
        | false =>
          have HQ : Hid ((0 : Int) = pa) := by unfold Hid; rw [← HPA.out]; exact (ahead_no HKA.out).symm
          go_wp2_with fail
          go_meet
          exact ⟨congrArg (fun z => Value.int .i64 z) HQ.out, rfl⟩
      case rest =>
      obtain ⟨e8, ewc⟩ := hcut
      subst e8
      rw [ewc]
      clear ewc
      go_upto_region 10 with (fail)
      go_cut [44] (fun v wx => v = .bool KB ∧ wx = W2)
      case first =>
        by_cases h1 : 0 ≤ xb
        · have d1 : decide (0 ≤ xb) = true := decide_eq_true h1
          have HQ : Hid (decide (xb < (k : Int)) = KB) := by unfold Hid; rw [← HKB.out, ahead, d1, Bool.true_and, HLEN.out]
          go_wp2_with fail
          go_meet
          exact ⟨congrArg Value.bool HQ.out, rfl⟩
        · have d1 : decide (0 ≤ xb) = false := decide_eq_false h1
          have HQ : Hid (false = KB) := by unfold Hid; rw [← HKB.out, ahead, d1, Bool.false_and]
          go_wp2_with fail
          go_meet
          exact ⟨congrArg Value.bool HQ.out, rfl⟩
      case rest =>
      obtain ⟨e8, ewc⟩ := hcut
      subst e8
      rw [ewc]
      clear ewc
      go_upto_if 44 with (fail)
      go_cut [10] (fun v wx => v = .int .i64 pb ∧ wx = W2)
      case first =>
        cases KB with
        | true =>
          obtain ⟨j, ej, hj, hop⟩ := ahead_yes HKB.out
          subst ej
          obtain ⟨b2, off2, c2, ev, hat⟩ := own_at HOWN.out (k := j) (by rw [← HLEN.out]; exact hj)
          injection ev with e1 _ e3
          subst e1 e3
          have hc := hat _ (ints_at hj)
          rw [← hop, HPB.out] at hc
          have hjk : j < k := by rw [← HLEN.out]; exact hj
          clear hat hop
          go_wp2_with fail
          go_meet
          exact ⟨rfl, rfl⟩
        | false =>
          have HQ : Hid ((0 : Int) = pb) := by unfold Hid; rw [← HPB.out]; exact (ahead_no HKB.out).symm
          go_wp2_with fail
          go_meet
          exact ⟨congrArg (fun z => Value.int .i64 z) HQ.out, rfl⟩
      case rest =>
      obtain ⟨e8, ewc⟩ := hcut
      subst e8
      rw [ewc]
      clear ewc
      have hM := refMade_any xop pa pb W2
      obtain ⟨M, eM⟩ : ∃ M, Tq.made xop pa pb = M := ⟨_, rfl⟩
      rw [eM] at hM
      have HMM := Lib.hid eM
      have HPAB : Hid (Tq.nodeT fs ts ⟨xop, xint, xa, xb, xt⟩ = if xop = 3 then Tq.claimT fs xt else if xop = 4 then Tq.hasT fs xt else if Tq.plainT xop pa pb = 0 then (0, 121) else (Tq.plainT xop pa pb, 0)) := by
        unfold Hid Tq.nodeT
        simp only [HPA.out, HPB.out]
      have hTS := HKN.out.2.1
      have HMIN : Hid (0 ≤ M ∧ M ≤ 4) := by unfold Hid; rw [← eM]; exact Tq.made_in _ _ _ (by rw [← HPA.out]; exact Tq.opnd_in hTS _)
      clear eM hTS
      go_wp2_with fail
      refine hM.mono ?_
      rintro e w3 ⟨rfl, rfl⟩
      clear hM
      have hFd := refField_any fs xt A m c W2 (HF.out.more HBW.out) HFS.out HXN.out
      obtain ⟨fr, efr⟩ : ∃ r, fieldR fs xt = r := ⟨_, rfl⟩
      rw [efr] at hFd
      rcases Decidable.em (xop = 3) with h3 | h3
      · subst h3
        have hN2 := HPAB.out
        rw [if_pos rfl] at hN2
        unfold Tq.claimT at hN2
        unfold fieldR at efr
        cases hf : Tq.find fs xt with
        | none =>
          rw [hf] at hN2 efr
          simp only at hN2 efr
          subst efr
          have HNT := Lib.hid hN2
          clear hN2 hf
          go_wp2_with fail
          refine hFd.mono ?_
          rintro e w3 ⟨rfl, rfl⟩
          clear hFd
          have HQ : Hid (P = (0, 120)) := by unfold Hid; rw [← HP.out]; exact HKN.out.fail HX.out HNT.out (by decide)
          clear HNT
          go_wp2
          go_ret2
          exact ⟨HBW.out, congrArg (fun p => Ending.returned (typeV p)) HQ.out.symm⟩
        | some t =>
          rw [hf] at hN2 efr
          simp only at hN2 efr
          by_cases hty : 1 ≤ t ∧ t ≤ 4
          · rw [if_pos hty] at hN2
            rw [if_neg (by omega)] at efr
            subst efr
            have g0 : decide (t < 0) = false := decide_eq_false (by omega)
            have g1 : (t == 0) = false := beq_false_of_ne (by omega)
            have g2 : decide (t = 0) = false := decide_eq_false (by omega)
            have HNT := Lib.hid hN2
            have HTY : Hid (Tq.Ty t) := hty
            clear hN2 hf hty
            go_wp2_with fail
            refine hFd.mono ?_
            rintro e w3 ⟨rfl, rfl⟩
            clear hFd
            have HPOST : Hid (Known fs ns (k + 1) (ts ++ [t])) := HKN.out.succ HX.out HNT.out HTY.out
            have hown3 := HOWN.out
            clear HNT HTY
            repeat ((fail_if_success (with_reducible show wpList _ _ _ (⟨some 83, _, _, _, _, _⟩ :: _) _ _)); first | go_values | go_skip | go_guarded | go_step | go_upon | go_back | go_simp)
            with_reducible refine append_row rfl (.tmp 80) (.tmp 82) 39 3 (.int .i64 0) 1 8 rfl Tryd.underlying39 infoInt rfl (by decide) w.heap.size (.slice A1 k c1) k (ints ts) ⟨W2.heap.size, 0, none⟩ 1 1 (ints [t]) (own_below hown3 (below_new _ _)) ?c1 ?c2 ?c3 ?c4 ?c5 ?c6 ?c7 ?c8 ?_
            case c1 => rfl
            case c2 => exact fun j u hj => new_cells W2 _ _ j u hj
            case c3 => exact ints_ones _
            case c4 => rfl
            case c5 => rfl
            case c6 => omega
            case c7 => omega
            case c8 => exact Nat.le_trans HBW.out.size (below_new W2 _).size
            intro v5 w5 hown5 hgr5
            have HQ : Hid (∃ (k' : Nat) (ts' : List Int), Value.int .i64 ((k + 1 : Nat) : Int) = .int .i64 k' ∧ k' ≤ n ∧ w5.ownsRow w.heap.size 3 1 v5 k' (ints ts') ∧ Hid (Known fs ns k' ts') ∧ Below w.heap.size w w5) := ⟨k + 1, ts ++ [t], rfl, hlt, by rw [ints_snoc]; exact hown5, HPOST, (below_onZ HBW.out (below_new _ _)).grown hgr5 (Nat.le_trans HBW.out.size (below_new W2 _).size) (fun k' e => (hown3.lt k' e).1)⟩
            clear hown5 hgr5 hown3
            go_frame
            go_wp2
            go_roundw
            case rel => exact HQ.out
            case measure => simp [intOf]; omega
          · rw [if_neg hty] at hN2
            rw [if_pos (by omega)] at efr
            subst efr
            have HNT := Lib.hid hN2
            clear hN2 hf hty
            go_wp2_with fail
            refine hFd.mono ?_
            rintro e w3 ⟨rfl, rfl⟩
            clear hFd
            have HQ : Hid (P = (0, 121)) := by unfold Hid; rw [← HP.out]; exact HKN.out.fail HX.out HNT.out (by decide)
            clear HNT
            go_wp2
            go_ret2
            exact ⟨HBW.out, congrArg (fun p => Ending.returned (typeV p)) HQ.out.symm⟩
      rcases Decidable.em (xop = 4) with h4 | h4
      · subst h4
        have hN2 := HPAB.out
        rw [if_neg (by decide), if_pos rfl] at hN2
        unfold Tq.hasT at hN2
        unfold fieldR at efr
        cases hf : Tq.find fs xt with
        | none =>
          rw [hf] at hN2 efr
          simp only at hN2 efr
          subst efr
          have HNT := Lib.hid hN2
          clear hN2 hf h3
          go_wp2_with fail
          refine hFd.mono ?_
          rintro e w3 ⟨rfl, rfl⟩
          clear hFd
          have HQ : Hid (P = (0, 120)) := by unfold Hid; rw [← HP.out]; exact HKN.out.fail HX.out HNT.out (by decide)
          clear HNT
          go_wp2
          go_ret2
          exact ⟨HBW.out, congrArg (fun p => Ending.returned (typeV p)) HQ.out.symm⟩
        | some t =>
          rw [hf] at hN2 efr
          simp only at hN2 efr
          have hfr : 0 ≤ fr := by
            split at efr
            · omega
            · omega
          have g0 : decide (fr < 0) = false := decide_eq_false (by omega)
          have HNT := Lib.hid hN2
          have HTY : Hid (Tq.Ty 3) := by unfold Hid Tq.Ty; omega
          clear hN2 hf h3 efr hfr
          go_wp2_with fail
          refine hFd.mono ?_
          rintro e w3 ⟨rfl, rfl⟩
          clear hFd
          have HPOST : Hid (Known fs ns (k + 1) (ts ++ [3])) := HKN.out.succ HX.out HNT.out HTY.out
          have hown3 := HOWN.out
          clear HNT HTY
          repeat ((fail_if_success (with_reducible show wpList _ _ _ (⟨some 83, _, _, _, _, _⟩ :: _) _ _)); first | go_values | go_skip | go_guarded | go_step | go_upon | go_back | go_simp)
          with_reducible refine append_row rfl (.tmp 80) (.tmp 82) 39 3 (.int .i64 0) 1 8 rfl Tryd.underlying39 infoInt rfl (by decide) w.heap.size (.slice A1 k c1) k (ints ts) ⟨W2.heap.size, 0, none⟩ 1 1 (ints [3]) (own_below hown3 (below_new _ _)) ?c1 ?c2 ?c3 ?c4 ?c5 ?c6 ?c7 ?c8 ?_
          case c1 => rfl
          case c2 => exact fun j u hj => new_cells W2 _ _ j u hj
          case c3 => exact ints_ones _
          case c4 => rfl
          case c5 => rfl
          case c6 => omega
          case c7 => omega
          case c8 => exact Nat.le_trans HBW.out.size (below_new W2 _).size
          intro v5 w5 hown5 hgr5
          have HQ : Hid (∃ (k' : Nat) (ts' : List Int), Value.int .i64 ((k + 1 : Nat) : Int) = .int .i64 k' ∧ k' ≤ n ∧ w5.ownsRow w.heap.size 3 1 v5 k' (ints ts') ∧ Hid (Known fs ns k' ts') ∧ Below w.heap.size w w5) := ⟨k + 1, ts ++ [3], rfl, hlt, by rw [ints_snoc]; exact hown5, HPOST, (below_onZ HBW.out (below_new _ _)).grown hgr5 (Nat.le_trans HBW.out.size (below_new W2 _).size) (fun k' e => (hown3.lt k' e).1)⟩
          clear hown5 hgr5 hown3
          go_frame
          go_wp2
          go_roundw
          case rel => exact HQ.out
          case measure => simp [intOf]; omega
      clear hFd efr
      have hN2 := HPAB.out
      rw [if_neg h3, if_neg h4] at hN2
      have q31 : (xop == 3) = false := beq_false_of_ne h3
      have q32 : decide (xop = 3) = false := decide_eq_false h3
      have q41 : (xop == 4) = false := beq_false_of_ne h4
      have q42 : decide (xop = 4) = false := decide_eq_false h4
      rcases Decidable.em (xop = 1) with h1 | h1
      · subst h1
        have HNT : Hid (Tq.nodeT fs ts ⟨1, xint, xa, xb, xt⟩ = (1, 0)) := hN2
        have HTY : Hid (Tq.Ty 1) := by unfold Hid Tq.Ty; omega
        clear hN2 h3 h4
        have HPOST : Hid (Known fs ns (k + 1) (ts ++ [1])) := HKN.out.succ HX.out HNT.out HTY.out
        have hown3 := HOWN.out
        clear HNT HTY
        repeat ((fail_if_success (with_reducible show wpList _ _ _ (⟨some 83, _, _, _, _, _⟩ :: _) _ _)); first | go_values | go_skip | go_guarded | go_step | go_upon | go_back | go_simp)
        with_reducible refine append_row rfl (.tmp 80) (.tmp 82) 39 3 (.int .i64 0) 1 8 rfl Tryd.underlying39 infoInt rfl (by decide) w.heap.size (.slice A1 k c1) k (ints ts) ⟨W2.heap.size, 0, none⟩ 1 1 (ints [1]) (own_below hown3 (below_new _ _)) ?c1 ?c2 ?c3 ?c4 ?c5 ?c6 ?c7 ?c8 ?_
        case c1 => rfl
        case c2 => exact fun j u hj => new_cells W2 _ _ j u hj
        case c3 => exact ints_ones _
        case c4 => rfl
        case c5 => rfl
        case c6 => omega
        case c7 => omega
        case c8 => exact Nat.le_trans HBW.out.size (below_new W2 _).size
        intro v5 w5 hown5 hgr5
        have HQ : Hid (∃ (k' : Nat) (ts' : List Int), Value.int .i64 ((k + 1 : Nat) : Int) = .int .i64 k' ∧ k' ≤ n ∧ w5.ownsRow w.heap.size 3 1 v5 k' (ints ts') ∧ Hid (Known fs ns k' ts') ∧ Below w.heap.size w w5) := ⟨k + 1, ts ++ [1], rfl, hlt, by rw [ints_snoc]; exact hown5, HPOST, (below_onZ HBW.out (below_new _ _)).grown hgr5 (Nat.le_trans HBW.out.size (below_new W2 _).size) (fun k' e => (hown3.lt k' e).1)⟩
        clear hown5 hgr5 hown3
        go_frame
        go_wp2
        go_roundw
        case rel => exact HQ.out
        case measure => simp [intOf]; omega
      rcases Decidable.em (xop = 2) with h2 | h2
      · subst h2
        have HNT : Hid (Tq.nodeT fs ts ⟨2, xint, xa, xb, xt⟩ = (2, 0)) := hN2
        have HTY : Hid (Tq.Ty 2) := by unfold Hid Tq.Ty; omega
        clear hN2 h3 h4 h1
        have HPOST : Hid (Known fs ns (k + 1) (ts ++ [2])) := HKN.out.succ HX.out HNT.out HTY.out
        have hown3 := HOWN.out
        clear HNT HTY
        repeat ((fail_if_success (with_reducible show wpList _ _ _ (⟨some 83, _, _, _, _, _⟩ :: _) _ _)); first | go_values | go_skip | go_guarded | go_step | go_upon | go_back | go_simp)
        with_reducible refine append_row rfl (.tmp 80) (.tmp 82) 39 3 (.int .i64 0) 1 8 rfl Tryd.underlying39 infoInt rfl (by decide) w.heap.size (.slice A1 k c1) k (ints ts) ⟨W2.heap.size, 0, none⟩ 1 1 (ints [2]) (own_below hown3 (below_new _ _)) ?c1 ?c2 ?c3 ?c4 ?c5 ?c6 ?c7 ?c8 ?_
        case c1 => rfl
        case c2 => exact fun j u hj => new_cells W2 _ _ j u hj
        case c3 => exact ints_ones _
        case c4 => rfl
        case c5 => rfl
        case c6 => omega
        case c7 => omega
        case c8 => exact Nat.le_trans HBW.out.size (below_new W2 _).size
        intro v5 w5 hown5 hgr5
        have HQ : Hid (∃ (k' : Nat) (ts' : List Int), Value.int .i64 ((k + 1 : Nat) : Int) = .int .i64 k' ∧ k' ≤ n ∧ w5.ownsRow w.heap.size 3 1 v5 k' (ints ts') ∧ Hid (Known fs ns k' ts') ∧ Below w.heap.size w w5) := ⟨k + 1, ts ++ [2], rfl, hlt, by rw [ints_snoc]; exact hown5, HPOST, (below_onZ HBW.out (below_new _ _)).grown hgr5 (Nat.le_trans HBW.out.size (below_new W2 _).size) (fun k' e => (hown3.lt k' e).1)⟩
        clear hown5 hgr5 hown3
        go_frame
        go_wp2
        go_roundw
        case rel => exact HQ.out
        case measure => simp [intOf]; omega
      have q11 : (xop == 1) = false := beq_false_of_ne h1
      have q12 : decide (xop = 1) = false := decide_eq_false h1
      have q21 : (xop == 2) = false := beq_false_of_ne h2
      have q22 : decide (xop = 2) = false := decide_eq_false h2
      have hpl : Tq.plainT xop pa pb = M := by unfold Tq.plainT; rw [if_neg h1, if_neg h2]; exact HMM.out
      rw [hpl] at hN2
      by_cases hM0 : M = 0
      · subst hM0
        rw [if_pos rfl] at hN2
        have HNT := Lib.hid hN2
        clear hN2 hpl h1 h2 h3 h4
        have HQ : Hid (P = (0, 121)) := by unfold Hid; rw [← HP.out]; exact HKN.out.fail HX.out HNT.out (by decide)
        clear HNT
        go_wp2
        go_ret2
        exact ⟨HBW.out, congrArg (fun p => Ending.returned (typeV p)) HQ.out.symm⟩
      · rw [if_neg hM0] at hN2
        have HNT := Lib.hid hN2
        have HTY : Hid (Tq.Ty M) := by have := HMIN.out; unfold Hid Tq.Ty; omega
        have g1 : (M == 0) = false := beq_false_of_ne hM0
        have g2 : decide (M = 0) = false := decide_eq_false hM0
        clear hN2 hpl h1 h2 h3 h4 hM0
        have HPOST : Hid (Known fs ns (k + 1) (ts ++ [M])) := HKN.out.succ HX.out HNT.out HTY.out
        have hown3 := HOWN.out
        clear HNT HTY
        repeat ((fail_if_success (with_reducible show wpList _ _ _ (⟨some 83, _, _, _, _, _⟩ :: _) _ _)); first | go_values | go_skip | go_guarded | go_step | go_upon | go_back | go_simp)
        with_reducible refine append_row rfl (.tmp 80) (.tmp 82) 39 3 (.int .i64 0) 1 8 rfl Tryd.underlying39 infoInt rfl (by decide) w.heap.size (.slice A1 k c1) k (ints ts) ⟨W2.heap.size, 0, none⟩ 1 1 (ints [M]) (own_below hown3 (below_new _ _)) ?c1 ?c2 ?c3 ?c4 ?c5 ?c6 ?c7 ?c8 ?_
        case c1 => rfl
        case c2 => exact fun j u hj => new_cells W2 _ _ j u hj
        case c3 => exact ints_ones _
        case c4 => rfl
        case c5 => rfl
        case c6 => omega
        case c7 => omega
        case c8 => exact Nat.le_trans HBW.out.size (below_new W2 _).size
        intro v5 w5 hown5 hgr5
        have HQ : Hid (∃ (k' : Nat) (ts' : List Int), Value.int .i64 ((k + 1 : Nat) : Int) = .int .i64 k' ∧ k' ≤ n ∧ w5.ownsRow w.heap.size 3 1 v5 k' (ints ts') ∧ Hid (Known fs ns k' ts') ∧ Below w.heap.size w w5) := ⟨k + 1, ts ++ [M], rfl, hlt, by rw [ints_snoc]; exact hown5, HPOST, (below_onZ HBW.out (below_new _ _)).grown hgr5 (Nat.le_trans HBW.out.size (below_new W2 _).size) (fun k' e => (hown3.lt k' e).1)⟩
        clear hown5 hgr5 hown3
        go_frame
        go_wp2
        go_roundw
        case rel => exact HQ.out
        case measure => simp [intOf]; omega
    · obtain rfl : k = n := by omega
      have hd2 : decide ((k : Int) < (k : Int)) = false := by simp
      rcases Nat.eq_zero_or_pos k with h0 | h0
      · have HQ : Hid (P = (0, 121)) := by
          have : ns = [] := List.eq_nil_of_length_eq_zero (by rw [HNS.out]; exact h0)
          unfold Hid
          rw [← HP.out, this]
          rfl
        have HB := Lib.hid hb
        subst h0
        clear hb hown
        go_wp2
        go_ret2
        exact ⟨HB.out, congrArg (fun p => Ending.returned (typeV p)) HQ.out.symm⟩
      obtain ⟨m1, rfl⟩ : ∃ m1, k = m1 + 1 := ⟨k - 1, by omega⟩
      have hsub : (((m1 + 1 : Nat) : Int) - 1) = (m1 : Int) := by omega
      have g1 : (((m1 + 1 : Nat) : Int) == 0) = false := beq_false_of_ne (by omega)
      have g2 : decide (((m1 + 1 : Nat) : Int) = 0) = false := decide_eq_false (by omega)
      obtain ⟨b, off, c2, ev, hat⟩ := own_at hown (k := m1) (by omega)
      injection ev with e1 e2 e3
      subst e1 e3
      have hlen : ts.length = m1 + 1 := HKN.out.1
      have hc := hat _ (ints_at (by omega))
      have hdone := HKN.out.done HNS.out (by omega)
      rw [Nat.add_sub_cancel] at hdone
      rw [HP.out] at hdone
      obtain ⟨t, et⟩ : ∃ t, ts.getD m1 0 = t := ⟨_, rfl⟩
      rw [et] at hc hdone
      have HQ := Lib.hid hdone
      have HB := Lib.hid hb
      clear hdone hat hb hown et hlen
      go_wp2
      go_ret2
      exact ⟨HB.out, congrArg (fun p => Ending.returned (typeV p)) HQ.out.symm⟩
end Go.Proofs.YtgoecghakiihpaaDoor
