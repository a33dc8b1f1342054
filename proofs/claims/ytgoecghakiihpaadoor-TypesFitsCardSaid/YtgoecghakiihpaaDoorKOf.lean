/-
  The type of an expression: the program's Of.
-/
import Derived.Test.YtgoecghakiihpaaDoorKNode
import Derived.Laws.MakeOwn
namespace Go.Proofs.YtgoecghakiihpaaDoor
open Go.RowKit

theorem infoInt : (Tryd.prog.info? 3).map (fun i => (i.zero, i.size, i.bytes)) = some (some (.int .i64 0), 1, 8) := by kernel_rfl
theorem make_ints_at {ops : Array Oper} {rest : List Oper} {o : Oper} {a : Act} {Q : Exit → Act → World → Prop} {w : World} (hgd : o.guard = none) (x y : Operand) (ho : o.op = .makeSlice 39 x y) (c : Nat) (hx : a.eval x = .int .i64 0) (hy : a.eval y = .int .i64 c) (hc : 8 * c ≤ 281474976710656)
    (base : Nat) (hbase : base ≤ w.heap.size)
    (h : ∀ w', w'.ownsRow base 3 1 (.slice (some ⟨w.heap.size, 0, none⟩) 0 c) 0 [] → w.grownBy w' none → wpList Tryd.prog ops Q rest (a.put o.dst (.slice (some ⟨w.heap.size, 0, none⟩) 0 c)) w') : wpList Tryd.prog ops Q (o :: rest) a w := by
  refine wpList_plain hgd fun K hK => ?_
  obtain ⟨i0, hi, hz0, hz1, hz2⟩ := info_parts infoInt
  obtain ⟨w', hr, h1, h2⟩ := run_make_own (P := Tryd.prog) w base 39 3 i0 (.int .i64 0) 1 Tryd.underlying39 hi hz0 hz1 .i64 .i64 c (by rw [hz2]; exact hc) (by unfold maxLen; omega) hbase
  unfold Oper.wp
  rw [execOp, ho]
  simp [hx, hy, hr, Result.andThen]
  exact hK _ _ (h _ h1 h2)
theorem below_grown {w w' : World} (h : w.grownBy w' none) : Below w.heap.size w w' := ⟨h.os, h.tape, h.output, h.size, fun k hk => h.block k hk (by simp)⟩
theorem ints_ones (ts : List Int) : ∀ u ∈ ints ts, u.oneCell' = true := by
  intro u hu
  obtain ⟨t, _, rfl⟩ := List.mem_map.1 hu
  rfl
/-- What is known of the first k nodes' types. -/
def Known (fs : List Tq.Fd) (ns : List Zq.Nd) (k : Nat) (ts : List Int) : Prop := ts.length = k ∧ Tq.Tys ts ∧ Tq.go fs [] ns = Tq.go fs ts (ns.drop k)
theorem Known.zero (fs : List Tq.Fd) (ns : List Zq.Nd) : Known fs ns 0 [] := ⟨rfl, Tq.Tys.nil, rfl⟩
theorem Known.succ {fs : List Tq.Fd} {ns : List Zq.Nd} {k : Nat} {ts : List Int} (h : Known fs ns k ts) {x : Zq.Nd} (hx : ns[k]? = some x) {t : Int} (ht : Tq.nodeT fs ts x = (t, 0)) (hty : Tq.Ty t) : Known fs ns (k + 1) (ts ++ [t]) := by
  obtain ⟨h1, h2, h3⟩ := h
  refine ⟨by simp [h1], h2.snoc hty, ?_⟩
  rw [h3, drop_at hx, Tq.go, ht, if_pos rfl]
theorem Known.fail {fs : List Tq.Fd} {ns : List Zq.Nd} {k : Nat} {ts : List Int} (h : Known fs ns k ts) {x : Zq.Nd} (hx : ns[k]? = some x) {e : Int} (ht : Tq.nodeT fs ts x = (0, e)) (he : e ≠ 0) : Tq.of fs ns = (0, e) := by
  obtain ⟨h1, h2, h3⟩ := h
  have hne : ns ≠ [] := fun h => by subst h; simp at hx
  unfold Tq.of
  rw [if_neg hne, h3, drop_at hx, Tq.go, ht, if_neg he]
theorem Known.done {fs : List Tq.Fd} {ns : List Zq.Nd} {k : Nat} {ts : List Int} (h : Known fs ns k ts) (hk : ns.length = k) (h0 : 0 < k) : Tq.of fs ns = (ts.getD (k - 1) 0, 0) := by
  obtain ⟨h1, h2, h3⟩ := h
  have hne : ns ≠ [] := fun h => by subst h; simp at hk; omega
  unfold Tq.of
  rw [if_neg hne, h3, List.drop_of_length_le (by omega), Tq.go, Tq.lastT, h1]
theorem own_le {w : World} {base n : Nat} {e : TypeId} {v : Value} {cs : List Value} (h : w.ownsRow base e 1 v n cs) : cs.length = n := by simpa using h.1
theorem own_at {w : World} {base n : Nat} {e : TypeId} {v : Value} {cs : List Value} (h : w.ownsRow base e 1 v n cs) {k : Nat} (hk : k < n) : ∃ b off c, v = .slice (some ⟨b, off, none⟩) n c ∧ ∀ x, cs[k]? = some x → w.cell? ⟨b, off + k, none⟩ = some x := by
  obtain ⟨A, c, e, _, _, h3⟩ := own_slIs h
  obtain ⟨b, off, rfl, _, _, h4⟩ := h3 (by omega)
  exact ⟨b, off, c, e, fun x hx => h4 k x hx⟩

set_option maxHeartbeats 2000000 in
set_option maxRecDepth 100000 in
theorem of_any {ok ok' : Nat → Prop} (ns : List Zq.Nd) (fs : List Tq.Fd) (A A' : Option Addr) (m c n c' : Nat) (w : World) (hH : HeldK w) (hN : NsE w ok' (.slice A' n c') ns) (hns : ns.length = n) (hsz : n * 48 ≤ 140737488355328) (hF : FsE w ok (.slice A m c) fs) (hfs : fs.length = m) :
    Calls Tryd.prog 8 #[.slice A' n c', .slice A m c] w fun e w' => Below w.heap.size w w' ∧ e = .returned (typeV (Tq.of fs ns)) := by
  obtain ⟨P, eP⟩ : ∃ P, Tq.of fs ns = P := ⟨_, rfl⟩
  have HP := Lib.hid eP
  have HN := Lib.hid hN
  have HNS := Lib.hid hns
  have HF := Lib.hid hF
  have HFS := Lib.hid hfs
  have HH : Hid (HeldK w) := hH
  rw [eP]
  rcases Nat.eq_zero_or_pos n with h0 | h0
  · have HQ : Hid (P = (0, 121)) := by
      have : ns = [] := List.eq_nil_of_length_eq_zero (by omega)
      unfold Hid
      rw [← eP, this]
      rfl
    have HB : Hid (Below w.heap.size w w) := Below.refl _ _
    subst h0
    clear hN hns hF hfs hH eP hsz
    go_enter Tryd.func8, Tryd.ntmps8
    go_wp2
    go_ret2
    exact ⟨HB.out, congrArg (fun p => Ending.returned (typeV p)) HQ.out.symm⟩
  have g1 : ((n : Int) == 0) = false := beq_false_of_ne (by omega)
  have g2 : decide ((n : Int) = 0) = false := decide_eq_false (by omega)
  clear hN hns hF hfs hH eP
  go_enter Tryd.func8, Tryd.ntmps8
  repeat ((fail_if_success (with_reducible show wpList _ _ _ (⟨some 16, _, _, _, _, _⟩ :: _) _ _)); first | go_values | go_skip | go_guarded | go_step | go_upon | go_back | go_simp)
  refine make_ints_at rfl (Operand.const (Value.int IntKind.i64 0)) (.tmp 15) rfl n rfl rfl (by omega) w.heap.size (Nat.le_refl _) ?_
  intro w1 hown1 hgr1
  have hb1 := below_grown hgr1
  obtain ⟨kv1, ekv⟩ : ∃ kv, (Value.slice (some ⟨w.heap.size, 0, none⟩) 0 n) = kv := ⟨_, rfl⟩
  rw [ekv] at hown1 ⊢
  clear ekv hgr1
  go_frame
  go_wp2_with fail
  go_loopw [6, 19] (fun kv i wr => ∃ (k : Nat) (ts : List Int), i = .int .i64 k ∧ k ≤ n ∧ wr.ownsRow w.heap.size 3 1 kv k (ints ts) ∧ Hid (Known fs ns k ts) ∧ Below w.heap.size w wr) (fun _ i _ => n - (intOf i).toNat)
  case atStart => exact ⟨0, [], rfl, Nat.zero_le _, hown1, Lib.hid (Known.zero _ _), hb1⟩
  case round =>
    obtain ⟨k, ts, rfl, hk, hown, HKN, hb⟩ := hrel
    obtain ⟨A1, c1, rfl⟩ := own_slice hown
    by_cases hlt : k < n
    · obtain ⟨b, off, x, rfl, _, _, hx, hxn, s0, s1, s2, s3, s4⟩ := (HN.out.more hb).elem (i := k) (by rw [HNS.out]; exact hlt)
      obtain ⟨W2, eW2⟩ : ∃ W2, W2 = wr.alloc (.cells #[.int .i64 x.op, .int .i64 x.int, .int .i64 x.a, .int .i64 x.b, .string (strOf x.text)] 41) := ⟨_, rfl⟩
      have hb2 : Below wr.heap.size wr W2 := by rw [eW2]; exact below_new _ _
      have hbW := below_onZ hb hb2
      have hown2 := own_below hown hb2
      have hC := ofNode_any fs ts x A A1 m c k c1 W2 (HH.out.below hbW) (own_slIs hown2) HKN.out.1 HKN.out.2.1 (HF.out.more hbW) HFS.out hxn
      have hor := Tq.node_or fs HKN.out.2.1 x
      obtain ⟨⟨t, ee⟩, et⟩ : ∃ p, Tq.nodeT fs ts x = p := ⟨_, rfl⟩
      rw [et] at hC hor
      simp only at hor
      have HX := Lib.hid hx
      have HET := Lib.hid et
      have HOWN := Lib.hid hown2
      have HBW := Lib.hid hbW
      have hl2 : Lies W2 wr.heap.size 41 [.int .i64 x.op, .int .i64 x.int, .int .i64 x.a, .int .i64 x.b, .string (strOf x.text)] := by rw [eW2]; exact Lies.new_ rfl
      obtain ⟨z0, z1, z2, z3, z4⟩ := hl2.fiveK
      have HW2 := Lib.hid eW2
      rw [eW2] at hC z0 z1 z2 z3 z4
      clear hx et hown hown2 hb hb2 hbW hl2 eW2 hxn
      rcases hor with ⟨rfl, hty⟩ | ⟨rfl, hee⟩
      · have HTY := Lib.hid hty
        clear hty
        go_wp2_with fail
        refine hC.mono ?_
        rintro e w3 ⟨hb3, rfl⟩
        rw [← HW2.out] at hb3
        have hown3 := own_below HOWN.out hb3
        have HB3 := Lib.hid (below_onZ HBW.out hb3)
        clear hC hb3 s0 s1 s2 s3 s4 z0 z1 z2 z3 z4
        repeat ((fail_if_success (with_reducible show wpList _ _ _ (⟨some 36, _, _, _, _, _⟩ :: _) _ _)); first | go_values | go_skip | go_guarded | go_step | go_upon | go_back | go_simp)
        with_reducible refine append_row rfl (.tmp 33) (.tmp 35) 39 3 (.int .i64 0) 1 8 rfl Tryd.underlying39 infoInt rfl (by decide) w.heap.size (.slice A1 k c1) k (ints ts) ⟨w3.heap.size, 0, none⟩ 1 1 (ints [t]) (own_below hown3 (below_new _ _)) ?c1 ?c2 ?c3 ?c4 ?c5 ?c6 ?c7 ?c8 ?_
        case c1 => rfl
        case c2 => exact fun j u hj => new_cells w3 _ _ j u hj
        case c3 => exact ints_ones _
        case c4 => rfl
        case c5 => rfl
        case c6 => omega
        case c7 => omega
        case c8 => exact Nat.le_trans HB3.out.size (below_new w3 _).size
        intro v5 w5 hown5 hgr5
        have HQ : Hid (∃ (k' : Nat) (ts' : List Int), Value.int .i64 ((k + 1 : Nat) : Int) = .int .i64 k' ∧ k' ≤ n ∧ w5.ownsRow w.heap.size 3 1 v5 k' (ints ts') ∧ Hid (Known fs ns k' ts') ∧ Below w.heap.size w w5) := ⟨k + 1, ts ++ [t], rfl, hlt, by rw [ints_snoc]; exact hown5, Lib.hid (HKN.out.succ HX.out HET.out HTY.out), (below_onZ HB3.out (below_new _ _)).grown hgr5 (Nat.le_trans HB3.out.size (below_new w3 _).size) (fun k' e => (hown3.lt k' e).1)⟩
        clear hown5 hgr5 hown3
        go_frame
        go_wp2
        go_roundw
        case rel => exact HQ.out
        case measure => simp [intOf]; omega
      · have g3 : (ee == 0) = false := beq_false_of_ne (by omega)
        have g4 : decide (ee = 0) = false := decide_eq_false (by omega)
        have g5 : (ee != 0) = true := by rw [bne_iff_ne]; omega
        have HQ : Hid (P = (0, ee)) := by unfold Hid; rw [← HP.out]; exact HKN.out.fail HX.out HET.out (by omega)
        clear hee
        go_wp2_with fail
        refine hC.mono ?_
        rintro e w3 ⟨hb3, rfl⟩
        rw [← HW2.out] at hb3
        have HB3 := Lib.hid (below_onZ HBW.out hb3)
        clear hC hb3 s0 s1 s2 s3 s4 z0 z1 z2 z3 z4
        go_wp2
        go_ret2
        exact ⟨HB3.out, congrArg (fun p => Ending.returned (typeV p)) HQ.out.symm⟩
    · obtain rfl : k = n := by omega
      obtain ⟨m1, rfl⟩ : ∃ m1, k = m1 + 1 := ⟨k - 1, by omega⟩
      have hd2 : decide (((m1 + 1 : Nat) : Int) < ((m1 + 1 : Nat) : Int)) = false := by simp
      have hsub : (((m1 + 1 : Nat) : Int) - 1) = (m1 : Int) := by omega
      obtain ⟨b, off, c2, ev, hat⟩ := own_at hown (k := m1) (by omega)
      injection ev with e1 e2 e3
      subst e1 e3
      have hlen : ts.length = m1 + 1 := HKN.out.1
      have hc := hat _ (ints_at (by omega))
      have hdone := HKN.out.done HNS.out (by omega)
      rw [Nat.add_sub_cancel] at hdone
      rw [HP.out] at hdone
      obtain ⟨t, et⟩ : ∃ t, ts.getD m1 0 = t := ⟨_, rfl⟩
      rw [et] at hc hdone
      have HQ := Lib.hid hdone
      have HB := Lib.hid hb
      clear hdone hat hb hown et hlen
      go_wp2
      go_ret2
      exact ⟨HB.out, congrArg (fun p => Ending.returned (typeV p)) HQ.out.symm⟩
end Go.Proofs.YtgoecghakiihpaaDoor
