/-
  G15: ZWt ZWu ZWv ZWw, side by side.
-/
import Derived.Test.YthhlmalpelgpeaaGreatDoorG14

/-
  Same: rows of nodes compared.
-/
namespace Go.Proofs.YthhlmalpelgpeaaGreatDoor
open Go.RowKit

/-- A bool that tells whether two things are equal. -/
def TellsZ (P : Prop) (w : World) (e : Ending) (w' : World) : Prop := Below w.heap.size w w' ∧ ((P ∧ e = .returned (.bool true)) ∨ (¬ P ∧ e = .returned (.bool false)))
theorem TellsZ.yes {P : Prop} {w w' : World} (h : P) (hb : Below w.heap.size w w') : TellsZ P w (.returned (.bool true)) w' := ⟨hb, .inl ⟨h, rfl⟩⟩
theorem TellsZ.no {P : Prop} {w w' : World} (h : ¬ P) (hb : Below w.heap.size w w') : TellsZ P w (.returned (.bool false)) w' := ⟨hb, .inr ⟨h, rfl⟩⟩
/-- A row of nodes in memory, of any size. -/
def NsE (w : World) (ok : Nat → Prop) (v : Value) (ns : List Zq.Nd) : Prop :=
  ∃ A c, v = .slice A ns.length c ∧ ns.length ≤ c ∧ c ≤ 9223372036854775807 ∧ (∀ n ∈ ns, ∀ x ∈ n.text, x < 256) ∧ (0 < ns.length → ∃ b off, A = some ⟨b, off, none⟩ ∧ ok b ∧ b < w.heap.size ∧ ∀ j x, (ncells ns)[j]? = some x → w.cell? ⟨b, off + j, none⟩ = some x)
section
variable {w w' : World} {ok ok' : Nat → Prop} {v : Value} {ns : List Zq.Nd} {A : Option Addr} {n c : Nat}
theorem NsW.toE (h : NsW w ok v ns) : NsE w ok v ns := by
  obtain ⟨A, c, e, h1, h2, _, h3, h4⟩ := h
  exact ⟨A, c, e, h1, h2, fun n hn => (h3 n hn).2.2.2.2, h4⟩
theorem NsE.keep (h : NsE w ok v ns) (hs : w.heap.size ≤ w'.heap.size) (hk : ∀ b, ok b → b < w.heap.size → ok' b ∧ w'.heap[b]? = w.heap[b]?) : NsE w' ok' v ns := by
  obtain ⟨A, c, rfl, h1, h2, h4, h5⟩ := h
  refine ⟨A, c, rfl, h1, h2, h4, fun h => ?_⟩
  obtain ⟨b, off, rfl, k1, k2, k3⟩ := h5 h
  obtain ⟨g1, g2⟩ := hk b k1 k2
  exact ⟨b, off, rfl, g1, Nat.lt_of_lt_of_le k2 hs, fun j x e => (World.cell?_of_block (a := ⟨b, off + j, none⟩) g2).trans (k3 j x e)⟩
theorem NsE.more (h : NsE w ok v ns) (hb : Below w.heap.size w w') : NsE w' ok v ns := h.keep hb.size (fun b hb' hlt => ⟨hb', hb.block b hlt⟩)
theorem NsE.form (h : NsE w ok v ns) : ∃ A c, v = .slice A ns.length c := by
  obtain ⟨A, c, e, _⟩ := h
  exact ⟨A, c, e⟩
theorem NsE.elem (h : NsE w ok (.slice A n c) ns) {i : Nat} (hi : i < ns.length) :
    ∃ b off x, A = some ⟨b, off, none⟩ ∧ ok b ∧ b < w.heap.size ∧ ns[i]? = some x ∧ (∀ y ∈ x.text, y < 256) ∧
      w.cell? ⟨b, off + i * 5, none⟩ = some (.int .i64 x.op) ∧ w.cell? ⟨b, off + i * 5 + 1, none⟩ = some (.int .i64 x.int) ∧ w.cell? ⟨b, off + i * 5 + 2, none⟩ = some (.int .i64 x.a) ∧ w.cell? ⟨b, off + i * 5 + 3, none⟩ = some (.int .i64 x.b) ∧ w.cell? ⟨b, off + i * 5 + 4, none⟩ = some (.string (strOf x.text)) := by
  obtain ⟨A', c', e, h1, h2, h4, h5⟩ := h
  injection e with e1 e2 e3
  subst e1 e3
  obtain ⟨b, off, rfl, k1, k2, k3⟩ := h5 (by omega)
  have hx : ns[i]? = some ns[i] := List.getElem?_eq_getElem hi
  have hc : ∀ j u, j < 5 → (ncell ns[i])[j]? = some u → w.cell? ⟨b, off + (i * 5 + j), none⟩ = some u := fun j u hj hu => k3 _ u (by rw [ncells_at ns i j _ hx hj, hu])
  refine ⟨b, off, ns[i], rfl, k1, k2, hx, h4 _ (List.getElem_mem hi), hc 0 _ (by omega) rfl, ?_, ?_, ?_, ?_⟩
  all_goals rw [Nat.add_assoc]
  · exact hc 1 _ (by omega) rfl
  · exact hc 2 _ (by omega) rfl
  · exact hc 3 _ (by omega) rfl
  · exact hc 4 _ (by omega) rfl
end
theorem take_sameZ {α : Type} {l m : List α} {k : Nat} {x y : α} (h : l.take k = m.take k) (hx : l[k]? = some x) (hy : m[k]? = some y) (he : x = y) : l.take (k + 1) = m.take (k + 1) := by
  obtain ⟨h1, e1⟩ := List.getElem?_eq_some_iff.1 hx
  obtain ⟨h2, e2⟩ := List.getElem?_eq_some_iff.1 hy
  rw [List.take_succ_eq_append_getElem h1, List.take_succ_eq_append_getElem h2, h, e1, e2, he]
set_option maxRecDepth 100000 in
theorem neq_node (o i a b o' i' a' b' : Int) (t t' : ByteArray) (w : World) : (binOp .neq 37 (.agg #[.int .i64 o, .int .i64 i, .int .i64 a, .int .i64 b, .string t]) (.agg #[.int .i64 o', .int .i64 i', .int .i64 a', .int .i64 b', .string t'])).run Tryz.prog w = .ok (.bool (!(o == o' && (i == i' && (a == a' && (b == b' && t.toList == t'.toList)))))) w := by
  have hS : Tryz.prog.underlying 37 = some (.struct (Tryz.prog.fieldsOf 37)) := by kernel_rfl
  have hp : Tryz.prog.stoodInHeld 37 = false := by kernel_rfl
  have u9 := Tryz.underlying9
  have a9 := Tryz.isAgg9
  have z9 := Tryz.sizeOf9
  have u3 := Tryz.underlying3
  have a3 := Tryz.isAgg3
  have z3 := Tryz.sizeOf3
  rw [run_neq_struct, show (10000 : Nat) = 9999 + 1 from rfl, run_equalIn_agg w 9999 37 _ _ hS hp]
  simp only [Program.fieldsOf, Tryz.underlying37]
  go_simp
  by_cases h1 : o = o' <;> by_cases h2 : i = i' <;> by_cases h3 : a = a' <;> by_cases h4 : b = b' <;> by_cases h5 : t.toList = t'.toList <;> simp [h1, h2, h3, h4, h5]
set_option maxRecDepth 100000 in
theorem guard_node : Tryz.prog.eqGuardType Tryz.prog.depth 37 = false := by kernel_rfl
theorem neq_nodes {p q : Zq.Nd} (hp : ∀ x ∈ p.text, x < 256) (hq : ∀ x ∈ q.text, x < 256) (w : World) :
    (binOp .neq 37 (.agg #[.int .i64 p.op, .int .i64 p.int, .int .i64 p.a, .int .i64 p.b, .string (strOf p.text)]) (.agg #[.int .i64 q.op, .int .i64 q.int, .int .i64 q.a, .int .i64 q.b, .string (strOf q.text)])).run Tryz.prog w = .ok (.bool (!decide (p = q))) w := by
  rw [neq_node, str_beq hp hq]
  congr 3
  rw [Bool.eq_iff_iff]
  simp only [Bool.and_eq_true, beq_iff_eq, decide_eq_true_iff]
  obtain ⟨a1, a2, a3, a4, a5⟩ := p
  obtain ⟨b1, b2, b3, b4, b5⟩ := q
  simp only [Zq.Nd.mk.injEq]
end Go.Proofs.YthhlmalpelgpeaaGreatDoor

/-
  Same: slices.Equal over nodes.
-/
namespace Go.Proofs.YthhlmalpelgpeaaGreatDoor
open Go.RowKit

theorem below_drewZ {B : Nat} {w w' : World} (h : Below B w w') (n : Nat) : Below B w (w'.drewN n) := ⟨h.os, h.tape, h.output, h.size, h.block⟩
set_option maxHeartbeats 2000000 in
set_option maxRecDepth 100000 in
theorem equalN_any {ok ok' : Nat → Prop} (l m : List Zq.Nd) (lv mv : Value) (w : World) (hL : NsE w ok lv l) (hM : NsE w ok' mv m) :
    Calls Tryz.prog 41 #[lv, mv] w (TellsZ (l = m) w) := by
  obtain ⟨A0, c0, rfl⟩ := hL.form
  obtain ⟨A9, c9, rfl⟩ := hM.form
  by_cases hlen : l.length = m.length
  · obtain ⟨N, eN⟩ : ∃ N, l.length = N := ⟨_, rfl⟩
    have eN2 : m.length = N := by rw [← hlen, eN]
    have hNs : N ≤ 9223372036854775807 := by
      obtain ⟨_, _, _, h1, h2, _⟩ := hL
      omega
    have HL := Lib.hid hL
    have HM := Lib.hid hM
    have HN := Lib.hid eN
    have HN2 := Lib.hid eN2
    have hd0 : ((N : Int) != (N : Int)) = false := by simp
    rw [eN, eN2]
    rw [eN] at HL
    rw [eN2] at HM
    clear eN eN2 hL hM hlen
    go_enter Tryz.func41, Tryz.ntmps41
    go_wp2_with fail
    go_loopw [13] (fun i wr => ∃ k : Nat, i = .int .i64 k ∧ k ≤ N ∧ Hid (l.take k = m.take k) ∧ Below w.heap.size w wr) (fun i _ => N - (intOf i).toNat)
    case atStart => exact ⟨0, rfl, Nat.zero_le _, Lib.hid rfl, Below.refl _ _⟩
    case round =>
      obtain ⟨k, rfl, hk, he, hb⟩ := hrel
      by_cases hlt : k < N
      · obtain ⟨b, off, x, rfl, _, hbw, hx, hxt, s0, s1, s2, s3, s4⟩ := (HL.out.more hb).elem (i := k) (by rw [HN.out]; exact hlt)
        obtain ⟨b', off', y, rfl, _, hbw', hy, hyt, t0, t1, t2, t3, t4⟩ := (HM.out.more hb).elem (i := k) (by rw [HN2.out]; exact hlt)
        have HX := Lib.hid hx
        have HY := Lib.hid hy
        have hneq := neq_nodes hxt hyt
        have hgd := guard_node
        clear hx hy hxt hyt
        by_cases hpq : x = y
        · rw [decide_eq_true hpq] at hneq
          have HE := Lib.hid (take_sameZ he.out HX.out HY.out hpq)
          clear hpq he
          go_upto_region 6 with (fail)
          go_quiet (fail)
          go_wp2
          go_roundw
          case rel => exact ⟨k + 1, by go_num, by omega, HE, below_drewZ hb nq⟩
          case measure => simp [intOf]; omega
        · rw [decide_eq_false hpq] at hneq
          have HE : Hid (l ≠ m) := fun h => by
            have h1 := HX.out
            rw [h] at h1
            exact hpq (Option.some.inj (h1.symm.trans HY.out))
          clear hpq he
          go_upto_region 6 with (fail)
          go_quiet (fail)
          go_wp2
          go_ret
          exact TellsZ.no HE.out (below_drewZ hb nq)
      · obtain rfl : k = N := by omega
        have hd2 : decide ((k : Int) < (k : Int)) = false := by simp
        have HQ : Hid (TellsZ (l = m) w (.returned (.bool true)) wr) := TellsZ.yes (by
          have := he.out
          rwa [List.take_of_length_le (by rw [HN.out]; exact Nat.le_refl _), List.take_of_length_le (by rw [HN2.out]; exact Nat.le_refl _)] at this) hb
        clear he hb
        go_wp2
        go_ret
        exact HQ.out
  · have hd0 : ((l.length : Int) != (m.length : Int)) = true := by rw [bne_iff_ne]; omega
    have HQ : Hid (TellsZ (l = m) w (.returned (.bool false)) w) := TellsZ.no (fun h => hlen (by rw [h])) (Below.refl _ _)
    clear hlen hL hM
    go_enter Tryz.func41, Tryz.ntmps41
    go_wp2
    go_ret
    exact HQ.out
end Go.Proofs.YthhlmalpelgpeaaGreatDoor

/-
  Same: two rules compared.
-/
namespace Go.Proofs.YthhlmalpelgpeaaGreatDoor
open Go.RowKit

/-- A rule in memory, of any size. -/
def RlE (w : World) (ok : Nat → Prop) (u : List Nat × Value × Value) (r : Zq.Rl) : Prop :=
  u.1 = r.name ∧ (∀ x ∈ r.name, x < 256) ∧ NsE w ok u.2.1 r.expr ∧ NsE w ok u.2.2 r.cond
section
variable {w w' : World} {ok ok' : Nat → Prop}
theorem RlE.keep {u : List Nat × Value × Value} {r : Zq.Rl} (h : RlE w ok u r) (hs : w.heap.size ≤ w'.heap.size) (hk : ∀ b, ok b → b < w.heap.size → ok' b ∧ w'.heap[b]? = w.heap[b]?) : RlE w' ok' u r := by
  obtain ⟨h1, h2, h4, h5⟩ := h
  exact ⟨h1, h2, h4.keep hs hk, h5.keep hs hk⟩
theorem RlE.more {u : List Nat × Value × Value} {r : Zq.Rl} (h : RlE w ok u r) (hb : Below w.heap.size w w') : RlE w' ok u r := h.keep hb.size (fun b hb' hlt => ⟨hb', hb.block b hlt⟩)
theorem RlW.toE {u : List Nat × Value × Value} {r : Zq.Rl} (h : RlW w ok u r) : RlE w ok u r := by
  obtain ⟨h1, h2, _, h4, h5⟩ := h
  exact ⟨h1, h2, h4.toE, h5.toE⟩
theorem rl_ext {r q : Zq.Rl} (h1 : r.name = q.name) (h2 : r.expr = q.expr) (h3 : r.cond = q.cond) : r = q := by
  cases r
  cases q
  simp only at h1 h2 h3
  subst h1 h2 h3
  rfl
set_option maxHeartbeats 2000000 in
set_option maxRecDepth 100000 in
theorem sameRule_any (r q : Zq.Rl) (ev wv ev' wv' : Value) (hR : RlE w ok (r.name, ev, wv) r) (hQ : RlE w ok' (q.name, ev', wv') q) :
    Calls Tryz.prog 24 #[rlV (r.name, ev, wv), rlV (q.name, ev', wv')] w (TellsZ (r = q) w) := by
  obtain ⟨_, hn1, he1, hc1⟩ := hR
  obtain ⟨_, hn2, he2, hc2⟩ := hQ
  simp only at he1 hc1 he2 hc2
  obtain ⟨A1, c1, rfl⟩ := he1.form
  obtain ⟨A2, c2, rfl⟩ := hc1.form
  obtain ⟨A3, c3, rfl⟩ := he2.form
  obtain ⟨A4, c4, rfl⟩ := hc2.form
  obtain ⟨W2, eW2⟩ : ∃ W2, W2 = (w.alloc (.cells #[.string (strOf r.name), .slice A1 r.expr.length c1, .slice A2 r.cond.length c2] 35)).alloc (.cells #[.string (strOf q.name), .slice A3 q.expr.length c3, .slice A4 q.cond.length c4] 35) := ⟨_, rfl⟩
  have hb2 : Below w.heap.size w W2 := by rw [eW2]; exact below_new2 _ _ _
  have hl1 : Lies W2 w.heap.size 35 [.string (strOf r.name), .slice A1 r.expr.length c1, .slice A2 r.cond.length c2] := by rw [eW2]; exact (Lies.new_ rfl).alloc _
  have hl2 : Lies W2 (w.heap.size + 1) 35 [.string (strOf q.name), .slice A3 q.expr.length c3, .slice A4 q.cond.length c4] := by rw [eW2]; exact Lies.new_ (by simp)
  have hX := equalN_any _ _ _ _ W2 (he1.more hb2) (he2.more hb2)
  have HC1 := Lib.hid (hc1.more hb2)
  have HC2 := Lib.hid (hc2.more hb2)
  have HL1 := Lib.hid hl1
  have HL2 := Lib.hid hl2
  have HB2 := Lib.hid hb2
  have HWE := Lib.hid eW2
  have hstr := str_beq hn1 hn2
  obtain ⟨⟨y0, y1, y2⟩, _⟩ := hl1.cells3
  obtain ⟨⟨z0, z1, z2⟩, _⟩ := hl2.cells3
  rw [eW2] at y0 y1 y2 z0 z1 z2 hX
  clear he1 hc1 he2 hc2 hn1 hn2 hb2 hl1 hl2 eW2
  by_cases h0 : r.name = q.name
  · have hd : ((strOf r.name).toList == (strOf q.name).toList) = true := by rw [hstr]; exact decide_eq_true h0
    have H0 := Lib.hid h0
    clear h0 hstr
    go_enter Tryz.func24, Tryz.ntmps24
    go_wp2_with fail
    refine hX.mono ?_
    rintro e w3 ⟨hb3, ⟨hq, rfl⟩ | ⟨hq, rfl⟩⟩
    · rw [← HWE.out] at hb3
      have HB3 := Lib.hid hb3
      have HQ := Lib.hid hq
      have hX2 := equalN_any _ _ _ _ w3 (HC1.out.more hb3) (HC2.out.more hb3)
      obtain ⟨⟨x0, x1, x2⟩, _⟩ := (HL1.out.below hb3 HL1.out.lt).cells3
      obtain ⟨⟨u0, u1, u2⟩, _⟩ := (HL2.out.below hb3 HL2.out.lt).cells3
      clear hX hq hb3 y0 y1 y2 z0 z1 z2
      go_wp2_with fail
      refine hX2.mono ?_
      rintro e w4 ⟨hb4, ⟨hc, rfl⟩ | ⟨hc, rfl⟩⟩
      · have HE := Lib.hid (TellsZ.yes (rl_ext H0.out HQ.out hc) (HB2.out.trans ((HB3.out.trans (hb4.mono HB3.out.size)).mono HB2.out.size)))
        clear hX2 hc hb4
        go_wp2
        go_ret
        exact HE.out
      · have HE := Lib.hid (TellsZ.no (P := r = q) (fun h => hc (by rw [h])) (HB2.out.trans ((HB3.out.trans (hb4.mono HB3.out.size)).mono HB2.out.size)))
        clear hX2 hc hb4
        go_wp2
        go_ret
        exact HE.out
    · rw [← HWE.out] at hb3
      have HE := Lib.hid (TellsZ.no (P := r = q) (fun h => hq (by rw [h])) (HB2.out.trans (hb3.mono HB2.out.size)))
      clear hX hq hb3
      go_wp2
      go_ret
      exact HE.out
  · have hd : ((strOf r.name).toList == (strOf q.name).toList) = false := by rw [hstr]; exact decide_eq_false h0
    have HE : Hid (TellsZ (r = q) w (.returned (.bool false)) W2) := TellsZ.no (fun h => h0 (by rw [h])) HB2.out
    rw [HWE.out] at HE
    clear h0 hstr hX
    go_enter Tryz.func24, Tryz.ntmps24
    go_wp2
    go_ret
    exact HE.out
end
end Go.Proofs.YthhlmalpelgpeaaGreatDoor

/-
  Same: rows of rules compared.
-/
namespace Go.Proofs.YthhlmalpelgpeaaGreatDoor
open Go.RowKit

/-- Rules in memory, of any size. -/
def RsE (w : World) (ok : Nat → Prop) (v : Value) (rs : List Zq.Rl) : Prop :=
  ∃ A c, v = .slice A rs.length c ∧ rs.length ≤ c ∧ c ≤ 9223372036854775807 ∧ ∃ us : List (List Nat × Value × Value), us.length = rs.length ∧
    (∀ (i : Nat) u r, us[i]? = some u → rs[i]? = some r → RlE w ok u r) ∧
    (0 < rs.length → ∃ b off, A = some ⟨b, off, none⟩ ∧ ok b ∧ b < w.heap.size ∧ ∀ j x, (rcells3 us)[j]? = some x → w.cell? ⟨b, off + j, none⟩ = some x)
section
variable {w w' : World} {ok ok' : Nat → Prop} {v : Value} {rs : List Zq.Rl} {A : Option Addr} {n c : Nat}
theorem RsW.toE (h : RsW w ok v rs) : RsE w ok v rs := by
  obtain ⟨A, c, e, h1, h2, _, us, h4, h5, h6⟩ := h
  exact ⟨A, c, e, h1, h2, us, h4, fun i u r e1 e2 => (h5 i u r e1 e2).toE, h6⟩
theorem RsE.keep (h : RsE w ok v rs) (hs : w.heap.size ≤ w'.heap.size) (hk : ∀ b, ok b → b < w.heap.size → ok' b ∧ w'.heap[b]? = w.heap[b]?) : RsE w' ok' v rs := by
  obtain ⟨A, c, rfl, h1, h2, us, h4, h5, h6⟩ := h
  refine ⟨A, c, rfl, h1, h2, us, h4, fun i u r e1 e2 => (h5 i u r e1 e2).keep hs hk, fun h => ?_⟩
  obtain ⟨b, off, rfl, k1, k2, k3⟩ := h6 h
  obtain ⟨g1, g2⟩ := hk b k1 k2
  exact ⟨b, off, rfl, g1, Nat.lt_of_lt_of_le k2 hs, fun j x e => (World.cell?_of_block (a := ⟨b, off + j, none⟩) g2).trans (k3 j x e)⟩
theorem RsE.more (h : RsE w ok v rs) (hb : Below w.heap.size w w') : RsE w' ok v rs := h.keep hb.size (fun b hb' hlt => ⟨hb', hb.block b hlt⟩)
theorem RsE.form (h : RsE w ok v rs) : ∃ A c, v = .slice A rs.length c := by
  obtain ⟨A, c, e, _⟩ := h
  exact ⟨A, c, e⟩
theorem RsE.elem (h : RsE w ok (.slice A n c) rs) {i : Nat} (hi : i < rs.length) :
    ∃ b off r A1 c1 A2 c2, A = some ⟨b, off, none⟩ ∧ ok b ∧ b < w.heap.size ∧ rs[i]? = some r ∧ RlE w ok (r.name, .slice A1 r.expr.length c1, .slice A2 r.cond.length c2) r ∧
      w.cell? ⟨b, off + i * 3, none⟩ = some (.string (strOf r.name)) ∧ w.cell? ⟨b, off + i * 3 + 1, none⟩ = some (.slice A1 r.expr.length c1) ∧ w.cell? ⟨b, off + i * 3 + 2, none⟩ = some (.slice A2 r.cond.length c2) := by
  obtain ⟨A', c', e, h1, h2, us, h4, h5, h6⟩ := h
  injection e with e1 e2 e3
  subst e1 e3
  obtain ⟨b, off, rfl, k1, k2, k3⟩ := h6 (by omega)
  have hx : rs[i]? = some rs[i] := List.getElem?_eq_getElem hi
  have hu : us[i]? = some (us[i]'(by omega)) := List.getElem?_eq_getElem (by omega)
  have hR := h5 i _ _ hu hx
  generalize us[i]'(by omega) = u at hu hR
  generalize rs[i] = r at hx hR
  obtain ⟨t, ev, wv⟩ := u
  obtain ⟨g1, g2, g4, g5⟩ := hR
  simp only at g1 g4 g5
  subst g1
  obtain ⟨A1, c1, rfl⟩ := g4.form
  obtain ⟨A2, c2, rfl⟩ := g5.form
  have hc : ∀ j y, j < 3 → (rcell (r.name, .slice A1 r.expr.length c1, .slice A2 r.cond.length c2))[j]? = some y → w.cell? ⟨b, off + (i * 3 + j), none⟩ = some y := fun j y hj hy => k3 _ y (by rw [rcells3_at us i j _ hu hj, hy])
  refine ⟨b, off, r, A1, c1, A2, c2, rfl, k1, k2, hx, ⟨rfl, g2, g4, g5⟩, hc 0 _ (by omega) rfl, ?_, ?_⟩
  all_goals rw [Nat.add_assoc]
  · exact hc 1 _ (by omega) rfl
  · exact hc 2 _ (by omega) rfl
theorem below_two (w : World) (o o' : Obj) : Below w.heap.size w ((w.alloc o).alloc o') := ((Below.refl _ _).alloc (Nat.le_refl _) o).alloc (by simp) o'
theorem below_onZ {w w1 w2 : World} (h1 : Below w.heap.size w w1) (h2 : Below w1.heap.size w1 w2) : Below w.heap.size w w2 := h1.trans (h2.mono h1.size)
end
set_option maxHeartbeats 2000000 in
set_option maxRecDepth 100000 in
theorem equalR_any {ok ok' : Nat → Prop} (l m : List Zq.Rl) (lv mv : Value) (w : World) (hL : RsE w ok lv l) (hM : RsE w ok' mv m) :
    Calls Tryz.prog 23 #[lv, mv, .func (.func 24) #[] #[]] w (TellsZ (l = m) w) := by
  obtain ⟨A0, c0, rfl⟩ := hL.form
  obtain ⟨A9, c9, rfl⟩ := hM.form
  by_cases hlen : l.length = m.length
  · obtain ⟨N, eN⟩ : ∃ N, l.length = N := ⟨_, rfl⟩
    have eN2 : m.length = N := by rw [← hlen, eN]
    have hNs : N ≤ 9223372036854775807 := by
      obtain ⟨_, _, _, h1, h2, _⟩ := hL
      omega
    have HL := Lib.hid hL
    have HM := Lib.hid hM
    have HN := Lib.hid eN
    have HN2 := Lib.hid eN2
    have hd0 : ((N : Int) != (N : Int)) = false := by simp
    rw [eN, eN2]
    rw [eN] at HL
    rw [eN2] at HM
    clear eN eN2 hL hM hlen
    go_enter Tryz.func23, Tryz.ntmps23
    go_wp2_with fail
    go_loopw [17] (fun i wr => ∃ k : Nat, i = .int .i64 k ∧ k ≤ N ∧ Hid (l.take k = m.take k) ∧ Below w.heap.size w wr) (fun i _ => N - (intOf i).toNat)
    case atStart => exact ⟨0, rfl, Nat.zero_le _, Lib.hid rfl, Below.refl _ _⟩
    case round =>
      obtain ⟨k, rfl, hk, he, hb⟩ := hrel
      by_cases hlt : k < N
      · obtain ⟨b, off, x, B1, e1, B2, e2, rfl, _, hblt, hx, hJ, s0, s1, s2⟩ := (HL.out.more hb).elem (i := k) (by rw [HN.out]; exact hlt)
        obtain ⟨b', off', y, B3, e3, B4, e4, rfl, _, hblt', hy, hK, t0, t1, t2⟩ := (HM.out.more hb).elem (i := k) (by rw [HN2.out]; exact hlt)
        have hb2 := below_two wr (.cells #[.string (strOf x.name), .slice B1 x.expr.length e1, .slice B2 x.cond.length e2] 35) (.cells #[.string (strOf y.name), .slice B3 y.expr.length e3, .slice B4 y.cond.length e4] 35)
        have hS := sameRule_any x y _ _ _ _ (hJ.more hb2) (hK.more hb2)
        have HB2 := Lib.hid (below_onZ hb hb2)
        have HX := Lib.hid hx
        have HY := Lib.hid hy
        clear hx hy hJ hK hb hb2
        go_wp2_with fail
        refine hS.mono ?_
        rintro e w2 ⟨hb3, ⟨hq, rfl⟩ | ⟨hq, rfl⟩⟩
        · have HQ : Hid (∃ k' : Nat, Value.int .i64 ((k + 1 : Nat) : Int) = .int .i64 k' ∧ k' ≤ N ∧ Hid (l.take k' = m.take k') ∧ Below w.heap.size w w2) := ⟨k + 1, rfl, hlt, Lib.hid (take_sameZ he.out HX.out HY.out hq), below_onZ HB2.out hb3⟩
          clear hS hb3 hq s0 s1 s2 t0 t1 t2
          go_wp2
          go_roundw
          case rel => exact HQ.out
          case measure => simp [intOf]; omega
        · have HQ : Hid (TellsZ (l = m) w (.returned (.bool false)) w2) := TellsZ.no (fun h => hq (by
            have h1 := HX.out
            rw [h] at h1
            exact Option.some.inj (h1.symm.trans HY.out))) (below_onZ HB2.out hb3)
          clear hS hb3 hq s0 s1 s2 t0 t1 t2
          go_wp2
          go_ret
          exact HQ.out
      · obtain rfl : k = N := by omega
        have hd2 : decide ((k : Int) < (k : Int)) = false := by simp
        have HQ : Hid (TellsZ (l = m) w (.returned (.bool true)) wr) := TellsZ.yes (by
          have := he.out
          rwa [List.take_of_length_le (by rw [HN.out]; exact Nat.le_refl _), List.take_of_length_le (by rw [HN2.out]; exact Nat.le_refl _)] at this) hb
        clear he hb
        go_wp2
        go_ret
        exact HQ.out
  · have hd0 : ((l.length : Int) != (m.length : Int)) = true := by rw [bne_iff_ne]; omega
    have HQ : Hid (TellsZ (l = m) w (.returned (.bool false)) w) := TellsZ.no (fun h => hlen (by rw [h])) (Below.refl _ _)
    clear hlen hL hM
    go_enter Tryz.func23, Tryz.ntmps23
    go_wp2
    go_ret
    exact HQ.out
set_option maxRecDepth 100000 in
theorem sameR_any {ok ok' : Nat → Prop} (l m : List Zq.Rl) (lv mv : Value) (w : World) (hL : RsE w ok lv l) (hM : RsE w ok' mv m) :
    Calls Tryz.prog 15 #[lv, mv] w (TellsZ (l = m) w) := by
  have hX := equalR_any l m lv mv w hL hM
  obtain ⟨A0, c0, rfl⟩ := hL.form
  obtain ⟨A9, c9, rfl⟩ := hM.form
  clear hL hM
  go_enter Tryz.func15, Tryz.ntmps15
  go_wp2_with fail
  refine hX.mono ?_
  rintro e w2 ⟨hb, ⟨hq, rfl⟩ | ⟨hq, rfl⟩⟩
  · have HQ := Lib.hid (TellsZ.yes hq hb)
    clear hX hb hq
    go_wp2
    go_ret
    exact HQ.out
  · have HQ := Lib.hid (TellsZ.no hq hb)
    clear hX hb hq
    go_wp2
    go_ret
    exact HQ.out
end Go.Proofs.YthhlmalpelgpeaaGreatDoor
