/-
  M02: KNode KOf KRefOf, side by side.
-/
import Derived.Test.YtnbaajdcakjlmaaDoorM01
import Derived.Laws.MakeOwn
import Derived.Deep.DeepCutAuto

/-
  The type of a node: the program's takes and ofNode, over its table of operators.
-/
namespace Go.Proofs.YtnbaajdcakjlmaaDoor
open Go.RowKit

/-- The table of operators, as cells. -/
def opCells (e : Tq.Entry) : List Value := [.int .i64 e.1, .int .i64 e.2.1, .int .i64 e.2.2.1, .int .i64 e.2.2.2]
def opsTab : Array Value := (Tq.table.flatMap opCells).toArray
def HeldK (w : World) : Prop := w.var? Tryd.prog "chatelaine/types.operations" = some opsTab
theorem varK_below {n : String} {g : Nat} {cs : Array Value} {w w' : World} (hg : Tryd.prog.globalNamed n = some g) (h : w.var? Tryd.prog n = some cs) (hb : Below w.heap.size w w') : w'.var? Tryd.prog n = some cs := by
  unfold World.var? at h ⊢
  rw [hg] at h ⊢
  simp only [Option.bind_some] at h ⊢
  have hlt : g < w.heap.size := by
    rcases Nat.lt_or_ge g w.heap.size with h' | h'
    · exact h'
    · rw [Array.getElem?_eq_none h'] at h; cases h
  rw [hb.block g hlt]
  exact h
def opAt (j : Nat) : Tq.Entry := Tq.table.getD j (0, 0, 0, 0)
/-- An entry of the table: what it says of a node. -/
theorem opAt_get {j : Nat} (hj : j < 20) : Tq.table[j]? = some (opAt j) := by
  have : ∀ j : Fin 20, Tq.table[j.val]? = some (opAt j.val) := by decide
  exact this ⟨j, hj⟩
theorem opAt_in {j : Nat} (hj : j < 20) : (0 ≤ (opAt j).2.1 ∧ (opAt j).2.1 ≤ 4) ∧ (0 ≤ (opAt j).2.2.1 ∧ (opAt j).2.2.1 ≤ 4) := by
  have : ∀ j : Fin 20, (0 ≤ (opAt j.val).2.1 ∧ (opAt j.val).2.1 ≤ 4) ∧ (0 ≤ (opAt j.val).2.2.1 ∧ (opAt j.val).2.2.1 ≤ 4) := by decide
  exact this ⟨j, hj⟩
theorem opAt_made {j : Nat} (hj : j < 20) : (opAt j).2.2.2 ≠ 0 := by
  have : ∀ j : Fin 20, (opAt j.val).2.2.2 ≠ 0 := by decide
  exact this ⟨j, hj⟩
theorem hit_eq (op a b : Int) (e : Tq.Entry) : Tq.hit op a b e = (decide (e.1 = op) && ((decide (e.2.1 = 0) || decide (a = e.2.1)) && (decide (e.2.2.1 = 0) || decide (b = e.2.2.1)))) := by
  unfold Tq.hit
  rw [Bool.and_assoc]
/-- None of the first j entries is right. -/
def NoHit (op a b : Int) (j : Nat) : Prop := Tq.first op a b Tq.table = Tq.first op a b (Tq.table.drop j)
theorem NoHit.zero (op a b : Int) : NoHit op a b 0 := rfl
theorem NoHit.succ {op a b : Int} {j : Nat} (h : NoHit op a b j) (hj : j < 20) (hm : Tq.hit op a b (opAt j) = false) : NoHit op a b (j + 1) := by
  unfold NoHit at h ⊢
  rw [h, drop_at (opAt_get hj), Tq.first_skip hm]
theorem NoHit.hit {op a b : Int} {j : Nat} (h : NoHit op a b j) (hj : j < 20) (hm : Tq.hit op a b (opAt j) = true) : Tq.first op a b Tq.table = (opAt j).2.2.2 := by
  unfold NoHit at h
  rw [h, drop_at (opAt_get hj), Tq.first_hit hm]
theorem NoHit.all {op a b : Int} (h : NoHit op a b 20) : Tq.first op a b Tq.table = 0 := h
theorem Lies.fourK {w : World} {g : Nat} {t : TypeId} {a b c d : Value} (hl : Lies w g t [a, b, c, d]) : w.cell? ⟨g, 0, none⟩ = some a ∧ w.cell? ⟨g, 1, none⟩ = some b ∧ w.cell? ⟨g, 2, none⟩ = some c ∧ w.cell? ⟨g, 3, none⟩ = some d :=
  ⟨hl.cell 0, hl.cell 1, hl.cell 2, hl.cell 3⟩
theorem Lies.fiveK {w : World} {g : Nat} {t : TypeId} {a b c d e : Value} (hl : Lies w g t [a, b, c, d, e]) : w.cell? ⟨g, 0, none⟩ = some a ∧ w.cell? ⟨g, 1, none⟩ = some b ∧ w.cell? ⟨g, 2, none⟩ = some c ∧ w.cell? ⟨g, 3, none⟩ = some d ∧ w.cell? ⟨g, 4, none⟩ = some e :=
  ⟨hl.cell 0, hl.cell 1, hl.cell 2, hl.cell 3, hl.cell 4⟩
end Go.Proofs.YtnbaajdcakjlmaaDoor

/-
  The type of an expression: the program's Of.
-/
namespace Go.Proofs.YtnbaajdcakjlmaaDoor
open Go.RowKit
set_option maxRecDepth 100000 in
theorem infoInt : (Tryd.prog.info? 3).map (fun i => (i.zero, i.size, i.bytes)) = some (some (.int .i64 0), 1, 8) := by kernel_rfl
theorem make_ints_at {ops : Array Oper} {rest : List Oper} {o : Oper} {a : Act} {Q : Exit → Act → World → Prop} {w : World} (hgd : o.guard = none) (x y : Operand) (ho : o.op = .makeSlice 52 x y) (c : Nat) (hx : a.eval x = .int .i64 0) (hy : a.eval y = .int .i64 c) (hc : 8 * c ≤ 281474976710656)
    (base : Nat) (hbase : base ≤ w.heap.size)
    (h : ∀ w', w'.ownsRow base 3 1 (.slice (some ⟨w.heap.size, 0, none⟩) 0 c) 0 [] → w.grownBy w' none → wpList Tryd.prog ops Q rest (a.put o.dst (.slice (some ⟨w.heap.size, 0, none⟩) 0 c)) w') : wpList Tryd.prog ops Q (o :: rest) a w := by
  refine wpList_plain hgd fun K hK => ?_
  obtain ⟨i0, hi, hz0, hz1, hz2⟩ := info_parts infoInt
  obtain ⟨w', hr, h1, h2⟩ := run_make_own (P := Tryd.prog) w base 52 3 i0 (.int .i64 0) 1 Tryd.underlying52 hi hz0 hz1 .i64 .i64 c (by rw [hz2]; exact hc) (by unfold maxLen; omega) hbase
  unfold Oper.wp
  rw [execOp, ho]
  simp [hx, hy, hr, Result.andThen]
  exact hK _ _ (h _ h1 h2)
theorem below_grown {w w' : World} (h : w.grownBy w' none) : Below w.heap.size w w' := ⟨h.os, h.tape, h.output, h.size, fun k hk => h.block k hk (by simp)⟩
theorem ints_ones (ts : List Int) : ∀ u ∈ ints ts, u.oneCell' = true := by
  intro u hu
  obtain ⟨t, _, rfl⟩ := List.mem_map.1 hu
  rfl
/-- What is known of the first k nodes' types. -/
def Known (fs : List Tq.Fd) (ns : List Zq.Nd) (k : Nat) (ts : List Int) : Prop := ts.length = k ∧ Tq.Tys ts ∧ Tq.go fs [] ns = Tq.go fs ts (ns.drop k)
theorem Known.zero (fs : List Tq.Fd) (ns : List Zq.Nd) : Known fs ns 0 [] := ⟨rfl, Tq.Tys.nil, rfl⟩
theorem Known.succ {fs : List Tq.Fd} {ns : List Zq.Nd} {k : Nat} {ts : List Int} (h : Known fs ns k ts) {x : Zq.Nd} (hx : ns[k]? = some x) {t : Int} (ht : Tq.nodeT fs ts x = (t, 0)) (hty : Tq.Ty t) : Known fs ns (k + 1) (ts ++ [t]) := by
  obtain ⟨h1, h2, h3⟩ := h
  refine ⟨by simp [h1], h2.snoc hty, ?_⟩
  rw [h3, drop_at hx, Tq.go, ht, if_pos rfl]
theorem Known.fail {fs : List Tq.Fd} {ns : List Zq.Nd} {k : Nat} {ts : List Int} (h : Known fs ns k ts) {x : Zq.Nd} (hx : ns[k]? = some x) {e : Int} (ht : Tq.nodeT fs ts x = (0, e)) (he : e ≠ 0) : Tq.of fs ns = (0, e) := by
  obtain ⟨h1, h2, h3⟩ := h
  have hne : ns ≠ [] := fun h => by subst h; simp at hx
  unfold Tq.of
  rw [if_neg hne, h3, drop_at hx, Tq.go, ht, if_neg he]
theorem Known.done {fs : List Tq.Fd} {ns : List Zq.Nd} {k : Nat} {ts : List Int} (h : Known fs ns k ts) (hk : ns.length = k) (h0 : 0 < k) : Tq.of fs ns = (ts.getD (k - 1) 0, 0) := by
  obtain ⟨h1, h2, h3⟩ := h
  have hne : ns ≠ [] := fun h => by subst h; simp at hk; omega
  unfold Tq.of
  rw [if_neg hne, h3, List.drop_of_length_le (by omega), Tq.go, Tq.lastT, h1]
theorem own_le {w : World} {base n : Nat} {e : TypeId} {v : Value} {cs : List Value} (h : w.ownsRow base e 1 v n cs) : cs.length = n := by simpa using h.1
theorem own_at {w : World} {base n : Nat} {e : TypeId} {v : Value} {cs : List Value} (h : w.ownsRow base e 1 v n cs) {k : Nat} (hk : k < n) : ∃ b off c, v = .slice (some ⟨b, off, none⟩) n c ∧ ∀ x, cs[k]? = some x → w.cell? ⟨b, off + k, none⟩ = some x := by
  obtain ⟨A, c, e, _, _, h3⟩ := own_slIs h
  obtain ⟨b, off, rfl, _, _, h4⟩ := h3 (by omega)
  exact ⟨b, off, c, e, fun x hx => h4 k x hx⟩

end Go.Proofs.YtnbaajdcakjlmaaDoor

/-
  The type of an expression: the document's Of.
-/
namespace Go.Proofs.YtnbaajdcakjlmaaDoor
open Go.RowKit

/-- An operand stands ahead of the node. -/
def ahead (ts : List Int) (k : Int) : Bool := decide (0 ≤ k) && decide (k < (ts.length : Int))
theorem ahead_yes {ts : List Int} {k : Int} (h : ahead ts k = true) : ∃ j : Nat, k = (j : Int) ∧ j < ts.length ∧ Tq.opnd ts k = ts.getD j 0 := by
  unfold ahead at h
  simp only [Bool.and_eq_true, decide_eq_true_eq] at h
  refine ⟨k.toNat, by omega, by omega, ?_⟩
  unfold Tq.opnd
  rw [if_pos h]
theorem ahead_no {ts : List Int} {k : Int} (h : ahead ts k = false) : Tq.opnd ts k = 0 := by
  unfold ahead at h
  refine Tq.opnd_none fun hh => ?_
  rw [decide_eq_true hh.1, decide_eq_true hh.2] at h
  exact absurd h (by decide)
set_option maxHeartbeats 2000000 in
set_option maxRecDepth 100000 in
theorem refOf_any {ok ok' : Nat → Prop} (ns : List Zq.Nd) (fs : List Tq.Fd) (A A' : Option Addr) (m c n c' : Nat) (w : World) (hN : NsE w ok' (.slice A' n c') ns) (hns : ns.length = n) (hsz : n * 48 ≤ 140737488355328) (hF : FsE w ok (.slice A m c) fs) (hfs : fs.length = m) :
    Calls Tryd.prog 7 #[.slice A' n c', .slice A m c] w fun e w' => Below w.heap.size w w' ∧ e = .returned (typeV (Tq.of fs ns)) := by
  obtain ⟨P, eP⟩ : ∃ P, Tq.of fs ns = P := ⟨_, rfl⟩
  have HP := Lib.hid eP
  have HN := Lib.hid hN
  have HNS := Lib.hid hns
  have HF := Lib.hid hF
  have HFS := Lib.hid hfs
  rw [eP]
  clear hN hns hF hfs eP
  go_enter Tryd.func7, Tryd.ntmps7
  go_wp2_with fail
  go_loopw [6, 7] (fun kv i wr => ∃ (k : Nat) (ts : List Int), i = .int .i64 k ∧ k ≤ n ∧ wr.ownsRow w.heap.size 3 1 kv k (ints ts) ∧ Hid (Known fs ns k ts) ∧ Below w.heap.size w wr) (fun _ i _ => n - (intOf i).toNat)
  case atStart => exact ⟨0, [], rfl, Nat.zero_le _, World.ownsRow_nil _ _ _ _, Lib.hid (Known.zero _ _), Below.refl _ _⟩
  case round =>
    obtain ⟨k, ts, rfl, hk, hown, HKN, hb⟩ := hrel
    obtain ⟨A1, c1, rfl⟩ := own_slice hown
    by_cases hlt : k < n
    · obtain ⟨b, off, ⟨xop, xint, xa, xb, xt⟩, rfl, _, _, hx, hxn, s0, s1, s2, s3, s4⟩ := (HN.out.more hb).elem (i := k) (by rw [HNS.out]; exact hlt)
      simp only at hxn s0 s1 s2 s3 s4
      obtain ⟨W2, eW2⟩ : ∃ W2, W2 = wr.alloc (.cells #[.int .i64 xop, .int .i64 xint, .int .i64 xa, .int .i64 xb, .string (strOf xt)] 44) := ⟨_, rfl⟩
      have hb2 : Below wr.heap.size wr W2 := by rw [eW2]; exact below_new _ _
      have hbW := below_onZ hb hb2
      have hown2 := own_below hown hb2
      have hl2 : Lies W2 wr.heap.size 44 [.int .i64 xop, .int .i64 xint, .int .i64 xa, .int .i64 xb, .string (strOf xt)] := by rw [eW2]; exact Lies.new_ rfl
      obtain ⟨z0, z1, z2, z3, z4⟩ := hl2.fiveK
      have HX := Lib.hid hx
      have HXN := Lib.hid hxn
      have HOWN := Lib.hid hown2
      have HBW := Lib.hid hbW
      have HL2 := Lib.hid hl2
      have HW2 := Lib.hid eW2
      have hlen : ts.length = k := HKN.out.1
      obtain ⟨KA, eKA⟩ : ∃ b, ahead ts xa = b := ⟨_, rfl⟩
      obtain ⟨KB, eKB⟩ : ∃ b, ahead ts xb = b := ⟨_, rfl⟩
      have HKA := Lib.hid eKA
      have HKB := Lib.hid eKB
      have HLEN := Lib.hid hlen
      obtain ⟨pa, epa⟩ : ∃ p, Tq.opnd ts xa = p := ⟨_, rfl⟩
      obtain ⟨pb, epb⟩ : ∃ p, Tq.opnd ts xb = p := ⟨_, rfl⟩
      have HPA := Lib.hid epa
      have HPB := Lib.hid epb
      rw [eW2] at z0 z1 z2 z3 z4
      clear hx hxn hown hown2 hb hb2 hbW hl2 eW2 eKA eKB hlen epa epb
      go_upto_region 8 with (fail)
      rw [← HW2.out] at z0 z1 z2 z3 z4 ⊢
      clear s0 s1 s2 s3 s4
      go_cut [30] (fun v wx => v = .bool KA ∧ wx = W2)
      case first =>
        by_cases h1 : 0 ≤ xa
        · have d1 : decide (0 ≤ xa) = true := decide_eq_true h1
          have HQ : Hid (decide (xa < (k : Int)) = KA) := by unfold Hid; rw [← HKA.out, ahead, d1, Bool.true_and, HLEN.out]
          go_wp2_with fail
          go_meet
          exact ⟨congrArg Value.bool HQ.out, rfl⟩
        · have d1 : decide (0 ≤ xa) = false := decide_eq_false h1
          have HQ : Hid (false = KA) := by unfold Hid; rw [← HKA.out, ahead, d1, Bool.false_and]
          go_wp2_with fail
          go_meet
          exact ⟨congrArg Value.bool HQ.out, rfl⟩
      case rest =>
      obtain ⟨e8, ewc⟩ := hcut
      subst e8
      rw [ewc]
      clear ewc
      go_upto_if 30 with (fail)
      go_cut [9] (fun v wx => v = .int .i64 pa ∧ wx = W2)
      case first =>
        cases KA with
        | true =>
          obtain ⟨j, ej, hj, hop⟩ := ahead_yes HKA.out
          subst ej
          obtain ⟨b2, off2, c2, ev, hat⟩ := own_at HOWN.out (k := j) (by rw [← HLEN.out]; exact hj)
          injection ev with e1 _ e3
          subst e1 e3
          have hc := hat _ (ints_at hj)
          rw [← hop, HPA.out] at hc
          have hjk : j < k := by rw [← HLEN.out]; exact hj
          clear hat hop
          go_wp2_with fail
          go_meet
          exact ⟨rfl, rfl⟩
        | false =>
          have HQ : Hid ((0 : Int) = pa) := by unfold Hid; rw [← HPA.out]; exact (ahead_no HKA.out).symm
          go_wp2_with fail
          go_meet
          exact ⟨congrArg (fun z => Value.int .i64 z) HQ.out, rfl⟩
      case rest =>
      obtain ⟨e8, ewc⟩ := hcut
      subst e8
      rw [ewc]
      clear ewc
      go_upto_region 10 with (fail)
      go_cut [44] (fun v wx => v = .bool KB ∧ wx = W2)
      case first =>
        by_cases h1 : 0 ≤ xb
        · have d1 : decide (0 ≤ xb) = true := decide_eq_true h1
          have HQ : Hid (decide (xb < (k : Int)) = KB) := by unfold Hid; rw [← HKB.out, ahead, d1, Bool.true_and, HLEN.out]
          go_wp2_with fail
          go_meet
          exact ⟨congrArg Value.bool HQ.out, rfl⟩
        · have d1 : decide (0 ≤ xb) = false := decide_eq_false h1
          have HQ : Hid (false = KB) := by unfold Hid; rw [← HKB.out, ahead, d1, Bool.false_and]
          go_wp2_with fail
          go_meet
          exact ⟨congrArg Value.bool HQ.out, rfl⟩
      case rest =>
      obtain ⟨e8, ewc⟩ := hcut
      subst e8
      rw [ewc]
      clear ewc
      go_upto_if 44 with (fail)
      go_cut [10] (fun v wx => v = .int .i64 pb ∧ wx = W2)
      case first =>
        cases KB with
        | true =>
          obtain ⟨j, ej, hj, hop⟩ := ahead_yes HKB.out
          subst ej
          obtain ⟨b2, off2, c2, ev, hat⟩ := own_at HOWN.out (k := j) (by rw [← HLEN.out]; exact hj)
          injection ev with e1 _ e3
          subst e1 e3
          have hc := hat _ (ints_at hj)
          rw [← hop, HPB.out] at hc
          have hjk : j < k := by rw [← HLEN.out]; exact hj
          clear hat hop
          go_wp2_with fail
          go_meet
          exact ⟨rfl, rfl⟩
        | false =>
          have HQ : Hid ((0 : Int) = pb) := by unfold Hid; rw [← HPB.out]; exact (ahead_no HKB.out).symm
          go_wp2_with fail
          go_meet
          exact ⟨congrArg (fun z => Value.int .i64 z) HQ.out, rfl⟩
      case rest =>
      obtain ⟨e8, ewc⟩ := hcut
      subst e8
      rw [ewc]
      clear ewc
      have hM := refMade_any xop pa pb W2
      obtain ⟨M, eM⟩ : ∃ M, Tq.made xop pa pb = M := ⟨_, rfl⟩
      rw [eM] at hM
      have HMM := Lib.hid eM
      have HPAB : Hid (Tq.nodeT fs ts ⟨xop, xint, xa, xb, xt⟩ = if xop = 3 then Tq.claimT fs xt else if xop = 4 then Tq.hasT fs xt else if Tq.plainT xop pa pb = 0 then (0, 121) else (Tq.plainT xop pa pb, 0)) := by
        unfold Hid Tq.nodeT
        simp only [HPA.out, HPB.out]
      have hTS := HKN.out.2.1
      have HMIN : Hid (0 ≤ M ∧ M ≤ 4) := by unfold Hid; rw [← eM]; exact Tq.made_in _ _ _ (by rw [← HPA.out]; exact Tq.opnd_in hTS _)
      clear eM hTS
      go_wp2_with fail
      refine hM.mono ?_
      rintro e w3 ⟨rfl, rfl⟩
      clear hM
      have hFd := refField_any fs xt A m c W2 (HF.out.more HBW.out) HFS.out HXN.out
      obtain ⟨fr, efr⟩ : ∃ r, fieldR fs xt = r := ⟨_, rfl⟩
      rw [efr] at hFd
      rcases Decidable.em (xop = 3) with h3 | h3
      · subst h3
        have hN2 := HPAB.out
        rw [if_pos rfl] at hN2
        unfold Tq.claimT at hN2
        unfold fieldR at efr
        cases hf : Tq.find fs xt with
        | none =>
          rw [hf] at hN2 efr
          simp only at hN2 efr
          subst efr
          have HNT := Lib.hid hN2
          clear hN2 hf
          go_wp2_with fail
          refine hFd.mono ?_
          rintro e w3 ⟨rfl, rfl⟩
          clear hFd
          have HQ : Hid (P = (0, 120)) := by unfold Hid; rw [← HP.out]; exact HKN.out.fail HX.out HNT.out (by decide)
          clear HNT
          go_wp2
          go_ret2
          exact ⟨HBW.out, congrArg (fun p => Ending.returned (typeV p)) HQ.out.symm⟩
        | some t =>
          rw [hf] at hN2 efr
          simp only at hN2 efr
          by_cases hty : 1 ≤ t ∧ t ≤ 4
          · rw [if_pos hty] at hN2
            rw [if_neg (by omega)] at efr
            subst efr
            have g0 : decide (t < 0) = false := decide_eq_false (by omega)
            have g1 : (t == 0) = false := beq_false_of_ne (by omega)
            have g2 : decide (t = 0) = false := decide_eq_false (by omega)
            have HNT := Lib.hid hN2
            have HTY : Hid (Tq.Ty t) := hty
            clear hN2 hf hty
            go_wp2_with fail
            refine hFd.mono ?_
            rintro e w3 ⟨rfl, rfl⟩
            clear hFd
            have HPOST : Hid (Known fs ns (k + 1) (ts ++ [t])) := HKN.out.succ HX.out HNT.out HTY.out
            have hown3 := HOWN.out
            clear HNT HTY
            repeat ((fail_if_success (with_reducible show wpList _ _ _ (⟨some 83, _, _, _, _, _⟩ :: _) _ _)); first | go_values | go_skip | go_guarded | go_step | go_upon | go_back | go_simp)
            with_reducible refine append_row rfl (.tmp 80) (.tmp 82) 52 3 (.int .i64 0) 1 8 rfl Tryd.underlying52 infoInt rfl (by decide) w.heap.size (.slice A1 k c1) k (ints ts) ⟨W2.heap.size, 0, none⟩ 1 1 (ints [t]) (own_below hown3 (below_new _ _)) ?c1 ?c2 ?c3 ?c4 ?c5 ?c6 ?c7 ?c8 ?_
            case c1 => rfl
            case c2 => exact fun j u hj => new_cells W2 _ _ j u hj
            case c3 => exact ints_ones _
            case c4 => rfl
            case c5 => rfl
            case c6 => omega
            case c7 => omega
            case c8 => exact Nat.le_trans HBW.out.size (below_new W2 _).size
            intro v5 w5 hown5 hgr5
            have HQ : Hid (∃ (k' : Nat) (ts' : List Int), Value.int .i64 ((k + 1 : Nat) : Int) = .int .i64 k' ∧ k' ≤ n ∧ w5.ownsRow w.heap.size 3 1 v5 k' (ints ts') ∧ Hid (Known fs ns k' ts') ∧ Below w.heap.size w w5) := ⟨k + 1, ts ++ [t], rfl, hlt, by rw [ints_snoc]; exact hown5, HPOST, (below_onZ HBW.out (below_new _ _)).grown hgr5 (Nat.le_trans HBW.out.size (below_new W2 _).size) (fun k' e => (hown3.lt k' e).1)⟩
            clear hown5 hgr5 hown3
            go_frame
            go_wp2
            go_roundw
            case rel => exact HQ.out
            case measure => simp [intOf]; omega
          · rw [if_neg hty] at hN2
            rw [if_pos (by omega)] at efr
            subst efr
            have HNT := Lib.hid hN2
            clear hN2 hf hty
            go_wp2_with fail
            refine hFd.mono ?_
            rintro e w3 ⟨rfl, rfl⟩
            clear hFd
            have HQ : Hid (P = (0, 121)) := by unfold Hid; rw [← HP.out]; exact HKN.out.fail HX.out HNT.out (by decide)
            clear HNT
            go_wp2
            go_ret2
            exact ⟨HBW.out, congrArg (fun p => Ending.returned (typeV p)) HQ.out.symm⟩
      rcases Decidable.em (xop = 4) with h4 | h4
      · subst h4
        have hN2 := HPAB.out
        rw [if_neg (by decide), if_pos rfl] at hN2
        unfold Tq.hasT at hN2
        unfold fieldR at efr
        cases hf : Tq.find fs xt with
        | none =>
          rw [hf] at hN2 efr
          simp only at hN2 efr
          subst efr
          have HNT := Lib.hid hN2
          clear hN2 hf h3
          go_wp2_with fail
          refine hFd.mono ?_
          rintro e w3 ⟨rfl, rfl⟩
          clear hFd
          have HQ : Hid (P = (0, 120)) := by unfold Hid; rw [← HP.out]; exact HKN.out.fail HX.out HNT.out (by decide)
          clear HNT
          go_wp2
          go_ret2
          exact ⟨HBW.out, congrArg (fun p => Ending.returned (typeV p)) HQ.out.symm⟩
        | some t =>
          rw [hf] at hN2 efr
          simp only at hN2 efr
          have hfr : 0 ≤ fr := by
            split at efr
            · omega
            · omega
          have g0 : decide (fr < 0) = false := decide_eq_false (by omega)
          have HNT := Lib.hid hN2
          have HTY : Hid (Tq.Ty 3) := by unfold Hid Tq.Ty; omega
          clear hN2 hf h3 efr hfr
          go_wp2_with fail
          refine hFd.mono ?_
          rintro e w3 ⟨rfl, rfl⟩
          clear hFd
          have HPOST : Hid (Known fs ns (k + 1) (ts ++ [3])) := HKN.out.succ HX.out HNT.out HTY.out
          have hown3 := HOWN.out
          clear HNT HTY
          repeat ((fail_if_success (with_reducible show wpList _ _ _ (⟨some 83, _, _, _, _, _⟩ :: _) _ _)); first | go_values | go_skip | go_guarded | go_step | go_upon | go_back | go_simp)
          with_reducible refine append_row rfl (.tmp 80) (.tmp 82) 52 3 (.int .i64 0) 1 8 rfl Tryd.underlying52 infoInt rfl (by decide) w.heap.size (.slice A1 k c1) k (ints ts) ⟨W2.heap.size, 0, none⟩ 1 1 (ints [3]) (own_below hown3 (below_new _ _)) ?c1 ?c2 ?c3 ?c4 ?c5 ?c6 ?c7 ?c8 ?_
          case c1 => rfl
          case c2 => exact fun j u hj => new_cells W2 _ _ j u hj
          case c3 => exact ints_ones _
          case c4 => rfl
          case c5 => rfl
          case c6 => omega
          case c7 => omega
          case c8 => exact Nat.le_trans HBW.out.size (below_new W2 _).size
          intro v5 w5 hown5 hgr5
          have HQ : Hid (∃ (k' : Nat) (ts' : List Int), Value.int .i64 ((k + 1 : Nat) : Int) = .int .i64 k' ∧ k' ≤ n ∧ w5.ownsRow w.heap.size 3 1 v5 k' (ints ts') ∧ Hid (Known fs ns k' ts') ∧ Below w.heap.size w w5) := ⟨k + 1, ts ++ [3], rfl, hlt, by rw [ints_snoc]; exact hown5, HPOST, (below_onZ HBW.out (below_new _ _)).grown hgr5 (Nat.le_trans HBW.out.size (below_new W2 _).size) (fun k' e => (hown3.lt k' e).1)⟩
          clear hown5 hgr5 hown3
          go_frame
          go_wp2
          go_roundw
          case rel => exact HQ.out
          case measure => simp [intOf]; omega
      clear hFd efr
      have hN2 := HPAB.out
      rw [if_neg h3, if_neg h4] at hN2
      have q31 : (xop == 3) = false := beq_false_of_ne h3
      have q32 : decide (xop = 3) = false := decide_eq_false h3
      have q41 : (xop == 4) = false := beq_false_of_ne h4
      have q42 : decide (xop = 4) = false := decide_eq_false h4
      rcases Decidable.em (xop = 1) with h1 | h1
      · subst h1
        have HNT : Hid (Tq.nodeT fs ts ⟨1, xint, xa, xb, xt⟩ = (1, 0)) := hN2
        have HTY : Hid (Tq.Ty 1) := by unfold Hid Tq.Ty; omega
        clear hN2 h3 h4
        have HPOST : Hid (Known fs ns (k + 1) (ts ++ [1])) := HKN.out.succ HX.out HNT.out HTY.out
        have hown3 := HOWN.out
        clear HNT HTY
        repeat ((fail_if_success (with_reducible show wpList _ _ _ (⟨some 83, _, _, _, _, _⟩ :: _) _ _)); first | go_values | go_skip | go_guarded | go_step | go_upon | go_back | go_simp)
        with_reducible refine append_row rfl (.tmp 80) (.tmp 82) 52 3 (.int .i64 0) 1 8 rfl Tryd.underlying52 infoInt rfl (by decide) w.heap.size (.slice A1 k c1) k (ints ts) ⟨W2.heap.size, 0, none⟩ 1 1 (ints [1]) (own_below hown3 (below_new _ _)) ?c1 ?c2 ?c3 ?c4 ?c5 ?c6 ?c7 ?c8 ?_
        case c1 => rfl
        case c2 => exact fun j u hj => new_cells W2 _ _ j u hj
        case c3 => exact ints_ones _
        case c4 => rfl
        case c5 => rfl
        case c6 => omega
        case c7 => omega
        case c8 => exact Nat.le_trans HBW.out.size (below_new W2 _).size
        intro v5 w5 hown5 hgr5
        have HQ : Hid (∃ (k' : Nat) (ts' : List Int), Value.int .i64 ((k + 1 : Nat) : Int) = .int .i64 k' ∧ k' ≤ n ∧ w5.ownsRow w.heap.size 3 1 v5 k' (ints ts') ∧ Hid (Known fs ns k' ts') ∧ Below w.heap.size w w5) := ⟨k + 1, ts ++ [1], rfl, hlt, by rw [ints_snoc]; exact hown5, HPOST, (below_onZ HBW.out (below_new _ _)).grown hgr5 (Nat.le_trans HBW.out.size (below_new W2 _).size) (fun k' e => (hown3.lt k' e).1)⟩
        clear hown5 hgr5 hown3
        go_frame
        go_wp2
        go_roundw
        case rel => exact HQ.out
        case measure => simp [intOf]; omega
      rcases Decidable.em (xop = 2) with h2 | h2
      · subst h2
        have HNT : Hid (Tq.nodeT fs ts ⟨2, xint, xa, xb, xt⟩ = (2, 0)) := hN2
        have HTY : Hid (Tq.Ty 2) := by unfold Hid Tq.Ty; omega
        clear hN2 h3 h4 h1
        have HPOST : Hid (Known fs ns (k + 1) (ts ++ [2])) := HKN.out.succ HX.out HNT.out HTY.out
        have hown3 := HOWN.out
        clear HNT HTY
        repeat ((fail_if_success (with_reducible show wpList _ _ _ (⟨some 83, _, _, _, _, _⟩ :: _) _ _)); first | go_values | go_skip | go_guarded | go_step | go_upon | go_back | go_simp)
        with_reducible refine append_row rfl (.tmp 80) (.tmp 82) 52 3 (.int .i64 0) 1 8 rfl Tryd.underlying52 infoInt rfl (by decide) w.heap.size (.slice A1 k c1) k (ints ts) ⟨W2.heap.size, 0, none⟩ 1 1 (ints [2]) (own_below hown3 (below_new _ _)) ?c1 ?c2 ?c3 ?c4 ?c5 ?c6 ?c7 ?c8 ?_
        case c1 => rfl
        case c2 => exact fun j u hj => new_cells W2 _ _ j u hj
        case c3 => exact ints_ones _
        case c4 => rfl
        case c5 => rfl
        case c6 => omega
        case c7 => omega
        case c8 => exact Nat.le_trans HBW.out.size (below_new W2 _).size
        intro v5 w5 hown5 hgr5
        have HQ : Hid (∃ (k' : Nat) (ts' : List Int), Value.int .i64 ((k + 1 : Nat) : Int) = .int .i64 k' ∧ k' ≤ n ∧ w5.ownsRow w.heap.size 3 1 v5 k' (ints ts') ∧ Hid (Known fs ns k' ts') ∧ Below w.heap.size w w5) := ⟨k + 1, ts ++ [2], rfl, hlt, by rw [ints_snoc]; exact hown5, HPOST, (below_onZ HBW.out (below_new _ _)).grown hgr5 (Nat.le_trans HBW.out.size (below_new W2 _).size) (fun k' e => (hown3.lt k' e).1)⟩
        clear hown5 hgr5 hown3
        go_frame
        go_wp2
        go_roundw
        case rel => exact HQ.out
        case measure => simp [intOf]; omega
      have q11 : (xop == 1) = false := beq_false_of_ne h1
      have q12 : decide (xop = 1) = false := decide_eq_false h1
      have q21 : (xop == 2) = false := beq_false_of_ne h2
      have q22 : decide (xop = 2) = false := decide_eq_false h2
      have hpl : Tq.plainT xop pa pb = M := by unfold Tq.plainT; rw [if_neg h1, if_neg h2]; exact HMM.out
      rw [hpl] at hN2
      by_cases hM0 : M = 0
      · subst hM0
        rw [if_pos rfl] at hN2
        have HNT := Lib.hid hN2
        clear hN2 hpl h1 h2 h3 h4
        have HQ : Hid (P = (0, 121)) := by unfold Hid; rw [← HP.out]; exact HKN.out.fail HX.out HNT.out (by decide)
        clear HNT
        go_wp2
        go_ret2
        exact ⟨HBW.out, congrArg (fun p => Ending.returned (typeV p)) HQ.out.symm⟩
      · rw [if_neg hM0] at hN2
        have HNT := Lib.hid hN2
        have HTY : Hid (Tq.Ty M) := by have := HMIN.out; unfold Hid Tq.Ty; omega
        have g1 : (M == 0) = false := beq_false_of_ne hM0
        have g2 : decide (M = 0) = false := decide_eq_false hM0
        clear hN2 hpl h1 h2 h3 h4 hM0
        have HPOST : Hid (Known fs ns (k + 1) (ts ++ [M])) := HKN.out.succ HX.out HNT.out HTY.out
        have hown3 := HOWN.out
        clear HNT HTY
        repeat ((fail_if_success (with_reducible show wpList _ _ _ (⟨some 83, _, _, _, _, _⟩ :: _) _ _)); first | go_values | go_skip | go_guarded | go_step | go_upon | go_back | go_simp)
        with_reducible refine append_row rfl (.tmp 80) (.tmp 82) 52 3 (.int .i64 0) 1 8 rfl Tryd.underlying52 infoInt rfl (by decide) w.heap.size (.slice A1 k c1) k (ints ts) ⟨W2.heap.size, 0, none⟩ 1 1 (ints [M]) (own_below hown3 (below_new _ _)) ?c1 ?c2 ?c3 ?c4 ?c5 ?c6 ?c7 ?c8 ?_
        case c1 => rfl
        case c2 => exact fun j u hj => new_cells W2 _ _ j u hj
        case c3 => exact ints_ones _
        case c4 => rfl
        case c5 => rfl
        case c6 => omega
        case c7 => omega
        case c8 => exact Nat.le_trans HBW.out.size (below_new W2 _).size
        intro v5 w5 hown5 hgr5
        have HQ : Hid (∃ (k' : Nat) (ts' : List Int), Value.int .i64 ((k + 1 : Nat) : Int) = .int .i64 k' ∧ k' ≤ n ∧ w5.ownsRow w.heap.size 3 1 v5 k' (ints ts') ∧ Hid (Known fs ns k' ts') ∧ Below w.heap.size w w5) := ⟨k + 1, ts ++ [M], rfl, hlt, by rw [ints_snoc]; exact hown5, HPOST, (below_onZ HBW.out (below_new _ _)).grown hgr5 (Nat.le_trans HBW.out.size (below_new W2 _).size) (fun k' e => (hown3.lt k' e).1)⟩
        clear hown5 hgr5 hown3
        go_frame
        go_wp2
        go_roundw
        case rel => exact HQ.out
        case measure => simp [intOf]; omega
    · obtain rfl : k = n := by omega
      have hd2 : decide ((k : Int) < (k : Int)) = false := by simp
      rcases Nat.eq_zero_or_pos k with h0 | h0
      · have HQ : Hid (P = (0, 121)) := by
          have : ns = [] := List.eq_nil_of_length_eq_zero (by rw [HNS.out]; exact h0)
          unfold Hid
          rw [← HP.out, this]
          rfl
        have HB := Lib.hid hb
        subst h0
        clear hb hown
        go_wp2
        go_ret2
        exact ⟨HB.out, congrArg (fun p => Ending.returned (typeV p)) HQ.out.symm⟩
      obtain ⟨m1, rfl⟩ : ∃ m1, k = m1 + 1 := ⟨k - 1, by omega⟩
      have hsub : (((m1 + 1 : Nat) : Int) - 1) = (m1 : Int) := by omega
      have g1 : (((m1 + 1 : Nat) : Int) == 0) = false := beq_false_of_ne (by omega)
      have g2 : decide (((m1 + 1 : Nat) : Int) = 0) = false := decide_eq_false (by omega)
      obtain ⟨b, off, c2, ev, hat⟩ := own_at hown (k := m1) (by omega)
      injection ev with e1 e2 e3
      subst e1 e3
      have hlen : ts.length = m1 + 1 := HKN.out.1
      have hc := hat _ (ints_at (by omega))
      have hdone := HKN.out.done HNS.out (by omega)
      rw [Nat.add_sub_cancel] at hdone
      rw [HP.out] at hdone
      obtain ⟨t, et⟩ : ∃ t, ts.getD m1 0 = t := ⟨_, rfl⟩
      rw [et] at hc hdone
      have HQ := Lib.hid hdone
      have HB := Lib.hid hb
      clear hdone hat hb hown et hlen
      go_wp2
      go_ret2
      exact ⟨HB.out, congrArg (fun p => Ending.returned (typeV p)) HQ.out.symm⟩
end Go.Proofs.YtnbaajdcakjlmaaDoor
