/-
  The law TypesMore.
-/
import Derived.Test.YtgoecghakiihpaaDoorKChk
import Derived.Test.YtgoecghakiihpaaDoorKAlive
namespace Go.Proofs.YtgoecghakiihpaaDoor
open Go.RowKit

theorem infoField : (Tryd.prog.info? 46).map (fun i => (i.zero, i.size, i.bytes)) = some (some (.agg #[.string ByteArray.empty, .int .i64 0]), 2, 24) := by kernel_rfl
section
variable {ops : Array Oper} {rest : List Oper} {o : Oper} {a : Act} {Q : Exit → Act → World → Prop} {w : World}
/-- append of fields that came in, whatever their address, onto a row of the call's own. -/
theorem run_append_fields {base n : Nat} {v : Value} {xs : List Value} {A : Option Addr} {c m : Nat} {ok : Nat → Prop} {fs : List Tq.Fd} (ty : TypeId) (hown : w.ownsRow base 46 2 v n xs) (hq : FsE w ok (.slice A m c) fs) (hm : fs.length = m)
    (hb : (n + m) * 24 ≤ 140737488355328) (hbase : base ≤ w.heap.size) :
    ∃ v' w', (Builtin.append_ #[23, 23] ty #[v, .slice A m c]).run Tryd.prog w = .ok v' w' ∧ w'.ownsRow base 46 2 v' (n + m) (xs ++ fcells fs) ∧ w.grownBy w' v.ownBlock := by
  obtain ⟨i0, hi, hz0, hz1, hz2⟩ := info_parts infoField
  have h63 : n + m ≤ maxLen := by unfold maxLen; omega
  have main : ∀ a : Addr, A = some a → (∀ j u, (fcells fs)[j]? = some u → w.cell? (a.add j) = some u) →
      ∃ v' w', (Builtin.append_ #[23, 23] ty #[v, .slice A m c]).run Tryd.prog w = .ok v' w' ∧ w'.ownsRow base 46 2 v' (n + m) (xs ++ fcells fs) ∧ w.grownBy w' v.ownBlock := by
    rintro a rfl ha
    obtain ⟨v', w', h1, h2, h3, _⟩ := run_append_own (P := Tryd.prog) w base 23 ty 46 i0 (.agg #[.string ByteArray.empty, .int .i64 0]) 2 24 Tryd.underlying23 hi hz0 hz1 hz2 rfl (by decide) v n xs hown a m c (fcells fs) (by rw [fcells_length, hm]) ha (fcells_ones fs) h63 hb hbase
    exact ⟨v', w', h1, h2, h3⟩
  obtain ⟨A', c', e, h1, h2, h4, h5⟩ := hq
  injection e with e1 e2 e3
  subst e1 e3
  rcases Nat.eq_zero_or_pos m with h0 | h0
  · obtain rfl : fs = [] := List.eq_nil_of_length_eq_zero (by omega)
    cases A with
    | some a => exact main a rfl (fun j u hj => by simp [fcells] at hj)
    | none =>
      subst h0
      refine ⟨v, w, ?_, by simpa [fcells] using hown, World.grownBy.refl w _⟩
      rcases hown.2 with ⟨rfl, rfl⟩ | ⟨g, cap, cur, rfl, _, _, hnc, _⟩
      · simp [Builtin.append_, run_underlying Tryd.underlying23, sizeOf, typeInfo, hi, Builtin.lenOf, Builtin.firstCells]
      · simp [Builtin.append_, run_underlying Tryd.underlying23, sizeOf, typeInfo, hi, Builtin.lenOf, Builtin.firstCells, hnc, storeCells]
  · obtain ⟨b, off, rfl, _, hlt, hc⟩ := h5 (by omega)
    exact main _ rfl (fun j u hj => by rw [Addr.add_lit]; exact hc j u hj)
theorem append_fields (hw : Region.wanted o (yielded ops a.tmps) = true) (s x : Operand)
    (ho : o.op = .call { callee := .builtin .append, args := #[s, x], argTypes := #[23, 23] })
    (base : Nat) (v : Value) (n : Nat) (xs : List Value) (A : Option Addr) (c m : Nat) {ok : Nat → Prop} (fs : List Tq.Fd) (hown : w.ownsRow base 46 2 v n xs) (hq : FsE w ok (.slice A m c) fs) (hm : fs.length = m)
    (hs : a.eval s = v) (hx : a.eval x = .slice A m c) (hb : (n + m) * 24 ≤ 140737488355328) (hbase : base ≤ w.heap.size)
    (h : ∀ v' w', w'.ownsRow base 46 2 v' (n + m) (xs ++ fcells fs) → w.grownBy w' v.ownBlock → wpList Tryd.prog ops Q rest (a.put o.dst v') w') : wpList Tryd.prog ops Q (o :: rest) a w := by
  refine wpList_step fun K hK => ?_
  rw [if_pos hw]
  obtain ⟨v', w', hrun, h2, h3⟩ := run_append_fields o.type hown hq hm hb hbase
  unfold Oper.wp
  simp [execOp, ho, resolve, invoke, builtin, hs, hx, hrun, Result.andThen]
  exact hK _ _ (h v' w' h2 h3)
end
theorem FsE.own {w : World} {base n : Nat} {v : Value} {fs : List Tq.Fd} (h : w.ownsRow base 46 2 v n (fcells fs)) (ht : ∀ f ∈ fs, ∀ x ∈ f.name, x < 256) (hn : fs.length = n) : FsE w (base ≤ ·) v fs := by
  obtain ⟨A, c, e, h1, h2, h3⟩ := own_slIs h
  subst hn
  exact ⟨A, c, e, h1, h2, ht, h3⟩
theorem FsE.small {w : World} {ok : Nat → Prop} {v : Value} {fs : List Tq.Fd} (h : FsE w ok v fs) : ∀ f ∈ fs, ∀ x ∈ f.name, x < 256 := by
  obtain ⟨_, _, _, _, _, h4, _⟩ := h
  exact h4
set_option maxHeartbeats 2000000 in
set_option maxRecDepth 100000 in
theorem lawMore_any {ok ok' ok2 : Nat → Prop} (l : List Zq.Rl) (fs fs2 : List Tq.Fd) (A A' A2 : Option Addr) (m c n c' m2 c2 : Nat) (w : World) (hH : HeldK w) (hL : RsE w ok' (.slice A' n c') l) (hl : l.length = n) (hsz : SzRs l) (hF : FsE w ok (.slice A m c) fs) (hfs : fs.length = m) (hF2 : FsE w ok2 (.slice A2 m2 c2) fs2) (hfs2 : fs2.length = m2) (hb : (m + m2) * 24 ≤ 140737488355328) :
    Calls Tryd.prog 5 #[.slice A' n c', .slice A m c, .slice A2 m2 c2] w (IsTrue w) := by
  have hC := check12_any l fs A A' m c n c' w hH hL hl hsz hF hfs
  have HH : Hid (HeldK w) := hH
  have HL := Lib.hid hL
  have HF := Lib.hid hF
  have HF2 := Lib.hid hF2
  have HSZ := Lib.hid hsz
  obtain ⟨q, eq⟩ : ∃ q, Tq.check fs l = q := ⟨_, rfl⟩
  have HQ := Lib.hid eq
  rw [eq] at hC
  clear hH hL hF hF2 hsz eq
  by_cases h0 : q = 0
  · have HM : Hid (Tq.check (fs ++ fs2) l = 0) := Tq.check_more fs2 l (by rw [HQ.out, h0])
    subst h0
    go_enter Tryd.func5, Tryd.ntmps5
    go_wp2_with fail
    refine hC.mono ?_
    rintro e w1 ⟨hb1, rfl⟩
    have HB1 := Lib.hid hb1
    have hA := alive12_any w1 (HH.out.below hb1)
    clear hC hb1
    go_wp2_with fail
    refine hA.mono ?_
    rintro e w2 ⟨rfl, hb2⟩
    have HB2 := Lib.hid (below_onZ HB1.out hb2)
    clear hA hb2
    have hown0 : (w2.alloc (.cells #[] 46)).ownsRow w2.heap.size 46 2 (.slice (some ⟨w2.heap.size, 0, none⟩) 0 0) 0 [] := ⟨rfl, .inr ⟨w2.heap.size, 0, #[], rfl, Nat.le_refl _, heap_alloc_new w2 _, Nat.le_refl _, Nat.zero_le _, rfl, rfl⟩⟩
    have hbx := below_new w2 (.cells #[] 46)
    have hFx := HF.out.more (below_onZ HB2.out hbx)
    repeat ((fail_if_success (with_reducible show wpList _ _ _ (⟨some 17, _, _, _, _, _⟩ :: _) _ _)); first | go_values | go_skip | go_guarded | go_step | go_upon | go_back | go_simp)
    refine append_fields ?c0 (.tmp 15) (.tmp 16) rfl w2.heap.size _ 0 [] A c m fs hown0 hFx hfs rfl rfl ?c6 ?c8 ?_
    case c0 => rfl
    case c6 => omega
    case c8 => exact hbx.size
    intro v5 w5 hown5 hgr5
    have hbx5 : Below w2.heap.size w2 w5 := hbx.grown hgr5 hbx.size (fun k e => (hown0.lt k e).1)
    rw [Nat.zero_add, List.nil_append] at hown5
    have hF25 := HF2.out.more (below_onZ HB2.out hbx5)
    clear hgr5 hown0 hbx hFx
    go_frame
    repeat ((fail_if_success (with_reducible show wpList _ _ _ (⟨some 19, _, _, _, _, _⟩ :: _) _ _)); first | go_values | go_skip | go_guarded | go_step | go_upon | go_back | go_simp)
    refine append_fields ?c0 (.tmp 17) (.tmp 18) rfl w2.heap.size v5 m (fcells fs) A2 c2 m2 fs2 hown5 hF25 hfs2 rfl rfl hb ?c8 ?_
    case c0 => rfl
    case c8 => exact hbx5.size
    intro v6 w6 hown6 hgr6
    have hbx6 : Below w2.heap.size w2 w6 := hbx5.grown hgr6 hbx5.size (fun k e => (hown5.lt k e).1)
    rw [← fcells_append] at hown6
    obtain ⟨A6, c6, rfl⟩ := own_slice hown6
    have hF6 := FsE.own hown6 (fun f hf => by
      rcases List.mem_append.1 hf with h | h
      · exact HF.out.small f h
      · exact HF2.out.small f h) (by simp [hfs, hfs2])
    have HB6 := Lib.hid (below_onZ HB2.out hbx6)
    have hC := check12_any l (fs ++ fs2) A6 A' (m + m2) c6 n c' w6 (HH.out.below HB6.out) (HL.out.more HB6.out) hl HSZ.out hF6 (by simp [hfs, hfs2])
    rw [HM.out] at hC
    clear hgr6 hown5 hown6 hbx5 hbx6 hF25 hF6
    go_frame
    go_wp2_with fail
    refine hC.mono ?_
    rintro e w7 ⟨hb7, rfl⟩
    have HE : Hid (IsTrue w (.returned (.bool true)) w7) := ⟨rfl, below_onZ HB6.out hb7⟩
    clear hC hb7
    go_wp2
    go_ret
    exact HE.out
  · have g1 : (q != 0) = true := by simp [h0]
    clear h0
    go_enter Tryd.func5, Tryd.ntmps5
    go_wp2_with fail
    refine hC.mono ?_
    rintro e w1 ⟨hb1, rfl⟩
    have HB1 := Lib.hid hb1
    have hA := alive12_any w1 (HH.out.below hb1)
    clear hC hb1
    go_wp2_with fail
    refine hA.mono ?_
    rintro e w2 ⟨rfl, hb2⟩
    have HE : Hid (IsTrue w (.returned (.bool true)) w2) := ⟨rfl, below_onZ HB1.out hb2⟩
    clear hA hb2
    go_wp2
    go_ret
    exact HE.out
end Go.Proofs.YtgoecghakiihpaaDoor
