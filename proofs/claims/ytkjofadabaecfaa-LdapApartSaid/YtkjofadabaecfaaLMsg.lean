/-
  A kind's message: the closure that assembles one.
-/
import Derived.Test.YtkjofadabaecfaaLMade
import Derived.Test.YtkjofadabaecfaaTPEnc
import Derived.Test.YtkjofadabaecfaaTPWhole
import Derived.Maps.AppendAt
import Derived.Deep.RegionLaw
namespace Go.Proofs.Ytkjofadabaecfaa
open Go.RowKit

/-- How a message's writing ends. -/
def PutEnd (res : Option (List Nat)) (w : World) (e : Ending) (w' : World) : Prop := Below w.heap.size w w' ∧ match res with
  | some l => ∃ A c, e = .returned (.tuple #[.slice A l.length c, .int .i64 0]) ∧ ArgIs w' A c l
  | none => e = .returned (.tuple #[nilS, .int .i64 70])
theorem PutEnd.cases {res : Option (List Nat)} {w w' : World} {e : Ending} (h : PutEnd res w e w') : Below w.heap.size w w' ∧
    ((∃ l A c, res = some l ∧ e = .returned (.tuple #[.slice A l.length c, .int .i64 0]) ∧ ArgIs w' A c l) ∨ (res = none ∧ e = .returned (.tuple #[nilS, .int .i64 70]))) := by
  obtain ⟨hb, h⟩ := h
  refine ⟨hb, ?_⟩
  cases hr : res with
  | some l =>
    rw [hr] at h
    obtain ⟨A, c, h1, h2⟩ := h
    exact .inl ⟨l, A, c, rfl, h1, h2⟩
  | none =>
    rw [hr] at h
    exact .inr ⟨rfl, h⟩
theorem PutEnd.none {res : Option (List Nat)} {w w' : World} (h : res = none) (hb : Below w.heap.size w w') : PutEnd res w (.returned (.tuple #[nilS, .int .i64 70])) w' := by
  rw [h]; exact ⟨hb, rfl⟩
theorem PutEnd.some {res : Option (List Nat)} {l : List Nat} {w w' : World} {A : Option Addr} {c : Nat} (h : res = some l) (hq : ArgIs w' A c l) (hb : Below w.heap.size w w') : PutEnd res w (.returned (.tuple #[.slice A l.length c, .int .i64 0])) w' := by
  rw [h]; exact ⟨hb, A, c, rfl, hq⟩
/-- A kind's four cells. -/
abbrev kcells (k : Bq.K) : List Value := [.int .u8 (k.g : Int), .int .u8 (k.a : Int), .int .u8 (k.b : Int), .int .u8 (k.c : Int)]

section
variable {ops : Array Oper} {o : Oper} {a : Act} {w : World} {K : Act → World → Prop} {E : Prop} {Q : Exit → Act → World → Prop}
/-- append of one value in a region that draws: where the grown row lies. -/
theorem step_append_at (hgd : o.guard = none) (s x : Operand) (t e : TypeId) (z : Value) (size bytes : Nat)
    (ho : o.op = .call { callee := .builtin .append, args := #[s, x], argTypes := #[t, t] }) (ht : Try.prog.underlying t = some (.slice e))
    (hi : (Try.prog.info? e).map (fun i => (i.zero, i.size, i.bytes)) = some (some z, size, bytes)) (hz : z.cells.size = size) (hsz : 0 < size)
    (base : Nat) (v : Value) (n : Nat) (xs : List Value) (A : Addr) (c : Nat) (us : List Value) (hown : w.ownsRow base e size v n xs) (hl : us.length = size) (hc : ∀ j u, us[j]? = some u → w.cell? (A.add j) = some u) (h1 : ∀ u ∈ us, u.oneCell' = true)
    (hs : a.eval s = v) (hx : a.eval x = .slice (some A) 1 c) (hb : (n + 1) * bytes ≤ 140737488355328) (hm : n + 1 ≤ 140737488355328) (hbase : base ≤ w.heap.size)
    (hK : ∀ g cap w', w'.ownsRow base e size (.slice (some ⟨g, 0, none⟩) (n + 1) cap) (n + 1) (xs ++ us) → w.grownBy w' v.ownBlock → K (a.put o.dst (.slice (some ⟨g, 0, none⟩) (n + 1) cap)) w') : if Region.wanted o (yielded ops a.tmps) = true then Oper.wp Try.prog o a w K Q else E := by
  have hw : Region.wanted o (yielded ops a.tmps) = true := by simp [Region.wanted, hgd]
  rw [if_pos hw]
  obtain ⟨i0, hi0, hz0, hz1, hz2⟩ := info_parts hi
  obtain ⟨v', w', hrun, h2, h3, _⟩ := run_append_own_at (P := Try.prog) w base t o.type e i0 z size bytes ht hi0 hz0 hz1 hz2 hz hsz v n xs hown A 1 c us (by rw [hl, Nat.one_mul]) hc h1 (by unfold maxLen; omega) hb hbase
  obtain ⟨g, cap, rfl⟩ := own_form h2 (by omega)
  unfold Oper.wp
  simp [execOp, ho, resolve, invoke, builtin, hs, hx, hrun, Result.andThen]
  exact hK g cap w' h2 h3
end

/-- The three parts' values. -/
abbrev vals3 (k : Bq.K) (s0 s1 s2 : Value) : List Value := [tv k.a s0 nilS, tv k.b s1 nilS, tv k.c s2 nilS]
/-- What holds while the parts are laid one behind the other. -/
def MRel (k : Bq.K) (s0 s1 s2 : Value) (W0 : World) (i : Value) (wr : World) : Prop :=
  ∃ m : Nat, i = .int .i64 m ∧ m ≤ 3 ∧ Below W0.heap.size W0 wr ∧ ∃ A c, Lies wr W0.heap.size 60 [.int .u8 (k.g : Int), nilS, .slice A m c] ∧
    wr.ownsRow (W0.heap.size + 1) 60 3 (.slice A m c) m (((vals3 k s0 s1 s2).take m).flatMap acells)

theorem own_drew {w : World} {base : Nat} {e : TypeId} {size n : Nat} {v : Value} {xs : List Value} (h : w.ownsRow base e size v n xs) : w.drew.ownsRow base e size v n xs := h
theorem grown_drew {w w' : World} {row : Option Nat} (h : w.drew.grownBy w' row) : w.grownBy w' row := ⟨h.os, h.tape, h.output, h.size, h.block⟩
theorem new_drew (w : World) (cs : Array Value) (t : TypeId) (j : Nat) (u : Value) (h : cs.toList[j]? = some u) : (w.alloc (.cells cs t)).drew.cell? ((⟨w.heap.size, 0, none⟩ : Addr).add j) = some u := new_cells w cs t j u h
/-- One part more. -/
theorem MRel.next {k : Bq.K} {s0 s1 s2 v : Value} {W0 wr w2 : World} {m g cap : Nat} {A : Option Addr} {c : Nat} {xs : List Value} (hm : m < 3) (hv : (vals3 k s0 s1 s2)[m]? = some v) (hb : Below W0.heap.size W0 wr)
    (hL : Lies wr W0.heap.size 60 [.int .u8 (k.g : Int), nilS, .slice A m c]) (hown : wr.ownsRow (W0.heap.size + 1) 60 3 (.slice A m c) m xs)
    (hx : xs = ((vals3 k s0 s1 s2).take m).flatMap acells) {o : Obj} (hown2 : w2.ownsRow (W0.heap.size + 1) 60 3 (.slice (some ⟨g, 0, none⟩) (m + 1) cap) (m + 1) (xs ++ acells v)) (hgr : (wr.alloc o).drew.grownBy w2 (Value.slice A m c).ownBlock) :
    MRel k s0 s1 s2 W0 (.int .i64 ((m + 1 : Nat) : Int)) (w2.setCell ⟨W0.heap.size, 2, none⟩ (.slice (some ⟨g, 0, none⟩) (m + 1) cap)) := by
  have hlt := hL.lt
  have hge : ∀ b, (Value.slice A m c).ownBlock = some b → W0.heap.size + 1 ≤ b := fun b e => (hown.lt b e).1
  have hL2 : Lies w2 W0.heap.size 60 [.int .u8 (k.g : Int), nilS, .slice A m c] := (hL.alloc o).grown (grown_drew hgr) (fun e => by have := hge _ e.symm; omega)
  have hb2 : Below W0.heap.size W0 w2 := (hb.alloc (by omega) o).grown (grown_drew hgr) (by simp; omega) (fun b e => by have := hge b e; omega)
  refine ⟨m + 1, rfl, by omega, hb2.setCell (Nat.le_refl _) _, some ⟨g, 0, none⟩, cap, ?_, ?_⟩
  · have := hL2.put 2 (.slice (some ⟨g, 0, none⟩) (m + 1) cap)
    simpa using this
  · have e : ((vals3 k s0 s1 s2).take (m + 1)).flatMap acells = xs ++ acells v := by
      rw [hx, List.take_add_one, hv, Option.toList_some, List.flatMap_append]
      simp
    rw [e]
    exact own_far hown2 (fun b hb' => Below.heap_setCell _ _ _ _ (show b ≠ W0.heap.size by have := (hown2.lt b hb').1; omega))

/-- Bytes that came in, as an element. -/
theorem scalar_is {w : World} {A : Option Addr} {c t : Nat} {q : List Nat} (ht : t < 256) (h : ArgIs w A c q) (hl : q.length ≤ 140737488355328) : IsT w (fun _ => True) (tv t (.slice A q.length c) nilS) (.mk t q []) :=
  .mk (vs := []) ht (slIs_of_arg h) ⟨hl, h.2.2.1⟩ (SlIs.nil _ _) rfl (Nat.zero_le _) (fun i v x h => by simp at h)
theorem msg_is {k : Bq.K} {n : Int} {p q r : List Nat} {A1 A2 A3 A9 A : Option Addr} {c1 c2 c3 c9 c : Nat} {w w1 wr : World} {xs : List Value}
    (hn : ArgIs w1 A9 c9 (Bq.whole n)) (hp : ArgIs w A1 c1 p) (hq : ArgIs w A2 c2 q) (hr : ArgIs w A3 c3 r) (hl : p.length ≤ 140737488355328 ∧ q.length ≤ 140737488355328 ∧ r.length ≤ 140737488355328)
    (hb1 : Below w.heap.size w w1) (hb : Below w1.heap.size w1 wr) (hL : Lies wr w1.heap.size 60 [.int .u8 (k.g : Int), nilS, .slice A 3 c])
    (hown : wr.ownsRow (w1.heap.size + 1) 60 3 (.slice A 3 c) 3 xs) (hxs : ((vals3 k (.slice A1 p.length c1) (.slice A2 q.length c2) (.slice A3 r.length c3)).take 3).flatMap acells = xs) (hk : Bq.Two k) :
    IsT (wr.alloc (.cells #[.int .u8 2, .slice A9 (Bq.whole n).length c9, nilS, .int .u8 (k.g : Int), nilS, .slice A 3 c] 60)) (fun _ => True) (tv 48 nilS (.slice (some ⟨wr.heap.size, 0, none⟩) 2 2)) (Bq.msg k n p q r) := by
  have hks : k.g < 256 ∧ k.a < 256 ∧ k.b < 256 ∧ k.c < 256 := by rcases hk with rfl | rfl <;> decide
  obtain ⟨W, eW⟩ : ∃ W, W = wr.alloc (.cells #[.int .u8 2, .slice A9 (Bq.whole n).length c9, nilS, .int .u8 (k.g : Int), nilS, .slice A 3 c] 60) := ⟨_, rfl⟩
  have hbW : Below wr.heap.size wr W := by rw [eW]; exact (Below.refl _ _).alloc (Nat.le_refl _) _
  have hLW : Lies W wr.heap.size 60 [.int .u8 2, .slice A9 (Bq.whole n).length c9, nilS, .int .u8 (k.g : Int), nilS, .slice A 3 c] := by rw [eW]; exact Lies.new_ rfl
  rw [← eW]
  have hb2 := below_more hb1 (below_more hb hbW)
  have hownW := own_below hown hbW
  have hP := scalar_is hks.2.1 (hp.on hb2) hl.1
  have hQ := scalar_is hks.2.2.1 (hq.on hb2) hl.2.1
  have hR := scalar_is hks.2.2.2 (hr.on hb2) hl.2.2
  have hwl := whole_len n
  have hN := scalar_is (t := 2) (by decide) (hn.on (below_more hb hbW)) (by omega)
  have hI : IsT W (fun _ => True) (tv k.g nilS (.slice A 3 c)) (.mk k.g [] [.mk k.a p [], .mk k.b q [], .mk k.c r []]) := by
    refine .mk (vs := vals3 k (.slice A1 p.length c1) (.slice A2 q.length c2) (.slice A3 r.length c3)) hks.1 (SlIs.nil _ _) ⟨by decide, fun x h => nomatch h⟩ ?_ rfl (by simp) (fun i v x e1 e2 => ?_)
    · have h := (own_slIs hownW).keep (ok' := fun _ => True) (fun b _ _ => ⟨trivial, rfl⟩) (Nat.le_refl _)
      rw [← hxs] at h
      exact h
    · match i, e1, e2 with
      | 0, e1, e2 => simp at e1 e2; subst e1 e2; exact hP
      | 1, e1, e2 => simp at e1 e2; subst e1 e2; exact hQ
      | 2, e1, e2 => simp at e1 e2; subst e1 e2; exact hR
      | i + 3, e1, e2 => simp at e1
  refine .mk (vs := [tv 2 (.slice A9 (Bq.whole n).length c9) nilS, tv k.g nilS (.slice A 3 c)]) (by decide) (SlIs.nil _ _) ⟨by decide, fun x h => nomatch h⟩ ?_ rfl (by simp) (fun i v x e1 e2 => ?_)
  · exact ⟨_, 2, rfl, Nat.le_refl _, by decide, fun _ => ⟨wr.heap.size, 0, rfl, trivial, hLW.lt, fun j x hj => by rw [Nat.zero_add, hLW.cell]; exact hj⟩⟩
  · match i, e1, e2 with
    | 0, e1, e2 => simp at e1 e2; subst e1 e2; exact hN
    | 1, e1, e2 => simp at e1 e2; subst e1 e2; exact hI
    | i + 2, e1, e2 => simp at e1

set_option maxHeartbeats 1000000 in
set_option maxRecDepth 100000 in
theorem message1_any {k : Bq.K} (hk : Bq.Two k) (n : Int) (K0 P0 : Nat) (p q r : List Nat) (A1 A2 A3 : Option Addr) (c1 c2 c3 : Nat) (w : World)
    (hKL : Lies w K0 47 (kcells k)) (hPL : Lies w P0 50 [.slice A1 p.length c1, .slice A2 q.length c2, .slice A3 r.length c3])
    (hp : ArgIs w A1 c1 p) (hq : ArgIs w A2 c2 q) (hr : ArgIs w A3 c3 r) (hl : p.length ≤ 140737488355328 ∧ q.length ≤ 140737488355328 ∧ r.length ≤ 140737488355328) :
    Calls Try.prog 37 #[.int .i64 n, .pointer (some ⟨K0, 0, none⟩), .pointer (some ⟨P0, 0, none⟩)] w (PutEnd (Bq.put k n p q r) w) := by
  obtain ⟨RES, eRES⟩ : ∃ RES, Bq.put k n p q r = RES := ⟨_, rfl⟩
  have HRES := Lib.hid eRES
  rw [eRES]
  have HKL := Lib.hid hKL
  have HPL := Lib.hid hPL
  have HP := Lib.hid hp
  have HQ0 := Lib.hid hq
  have HR := Lib.hid hr
  have HL := Lib.hid hl
  have hW := whole_any n w
  clear eRES hKL hPL hp hq hr hl
  go_enter Try.func37, Try.ntmps37
  go_wp2_with fail
  refine hW.mono ?_
  rintro e w1 ⟨A9, c9, rfl, hn9, hb1⟩
  clear hW
  by_cases hw0 : Bq.whole n = []
  · have hd : (((Bq.whole n).length : Int) == 0) = true := by rw [hw0]; rfl
    have HQ : Hid (PutEnd RES w (.returned (.tuple #[nilS, .int .i64 70])) w1) := PutEnd.none (by rw [← HRES.out]; exact if_pos hw0) hb1
    clear hn9 hb1 hw0
    go_wp2
    go_ret2
    exact HQ.out
  have hd : (((Bq.whole n).length : Int) == 0) = false := by
    rw [beq_eq_false_iff_ne]
    intro h
    exact hw0 (List.eq_nil_of_length_eq_zero (by omega))
  have hst : MRel k (.slice A1 p.length c1) (.slice A2 q.length c2) (.slice A3 r.length c3) w1 (.int .i64 0) (w1.alloc (.cells #[.int .u8 (k.g : Int), nilS, nilS] 60)) :=
    ⟨0, rfl, by omega, (Below.refl _ _).alloc (Nat.le_refl _) _, none, 0, Lies.new_ rfl, World.ownsRow_nil _ _ _ _⟩
  have hk1 := HKL.out.below hb1 HKL.out.lt
  have hp1 := HPL.out.below hb1 HPL.out.lt
  have z0 := hk1.cell 0
  simp only [List.getElem?_cons_zero] at z0
  have hK1 : K0 < w1.heap.size := hk1.lt
  have hP1 : P0 < w1.heap.size := hp1.lt
  obtain ⟨y0, y1, y2⟩ : w1.cell? ⟨P0, 0, none⟩ = some (.slice A1 p.length c1) ∧ w1.cell? ⟨P0, 1, none⟩ = some (.slice A2 q.length c2) ∧ w1.cell? ⟨P0, 2, none⟩ = some (.slice A3 r.length c3) := ⟨hp1.cell 0, hp1.cell 1, hp1.cell 2⟩
  have HST := Lib.hid hst
  have HN9 := Lib.hid hn9
  have HB1 := Lib.hid hb1
  have HK1 := Lib.hid hk1
  have HW0 := Lib.hid hw0
  clear hst hn9 hb1 hk1 hw0
  go_wp2_with fail
  go_loopw [21] (fun i wr => MRel k (.slice A1 p.length c1) (.slice A2 q.length c2) (.slice A3 r.length c3) w1 i wr) (fun i _ => 3 - (intOf i).toNat)
  case atStart => exact HST.out
  case round =>
    obtain ⟨m, rfl, hm, hb, A, c, hL, hown⟩ := hrel
    have hVlt := hL.lt
    have hKK := HK1.out.below hb HK1.out.lt
    have z2 := hL.cell 2
    have f2 := hL.free 2
    simp only [List.getElem?_cons_zero, List.getElem?_cons_succ] at z2
    obtain ⟨k1, k2, k3⟩ : wr.cell? ⟨K0, 1, none⟩ = some (.int .u8 (k.a : Int)) ∧ wr.cell? ⟨K0, 2, none⟩ = some (.int .u8 (k.b : Int)) ∧ wr.cell? ⟨K0, 3, none⟩ = some (.int .u8 (k.c : Int)) := ⟨hKK.cell 1, hKK.cell 2, hKK.cell 3⟩
    obtain ⟨xs, exs⟩ : ∃ xs, ((vals3 k (.slice A1 p.length c1) (.slice A2 q.length c2) (.slice A3 r.length c3)).take m).flatMap acells = xs := ⟨_, rfl⟩
    rw [exs] at hown
    have HXS := Lib.hid exs
    have HBR := Lib.hid hb
    have HLR := Lib.hid hL
    clear exs hb hL hKK
    by_cases h3 : m = 3
    · subst h3
      have hE := encode_any (ok := fun _ => True) _ (Bq.msg k n p q r) _ (msg_is HN9.out HP.out HQ0.out HR.out HL.out HB1.out HBR.out HLR.out hown HXS.out hk)
      have HB3 := Lib.hid (below_alloc (below_more HB1.out HBR.out) (.cells #[.int .u8 2, .slice A9 (Bq.whole n).length c9, nilS, .int .u8 (k.g : Int), nilS, .slice A 3 c] 60))
      obtain ⟨⟨x0, x1, x2⟩, _⟩ := HLR.out.three
      clear hown
      go_wp2_with fail
      refine hE.mono ?_
      intro e w3 hh
      rcases hh.cases with ⟨l, A5, c5, he, rfl, hl5, hb5⟩ | ⟨m, he, hm0, rfl, hb5⟩
      · have HQ : Hid (PutEnd RES w (.returned (.tuple #[.slice A5 l.length c5, .int .i64 0])) w3) := PutEnd.some (by
          rw [← HRES.out]
          unfold Bq.put
          rw [if_neg HW0.out, he]) hl5 (below_more HB3.out hb5)
        clear hE hh he hl5 hb5
        go_wp2
        go_ret2
        exact HQ.out
      · have hd3 : ((m : Int) != 0) = true := by rw [bne_iff_ne]; omega
        have HQ : Hid (PutEnd RES w (.returned (.tuple #[nilS, .int .i64 70])) w3) := PutEnd.none (by
          rw [← HRES.out]
          unfold Bq.put
          rw [if_neg HW0.out, he]) (below_more HB3.out hb5)
        clear hE hh he hb5 hm0
        go_wp2
        go_ret2
        exact HQ.out
    have hm3 : m = 0 ∨ m = 1 ∨ m = 2 := by omega
    clear hm h3
    have i0 : (Instr.index 50 (.agg #[.slice A1 p.length c1, .slice A2 q.length c2, .slice A3 r.length c3]) (.int .i64 0)).run Try.prog wr = .ok (.slice A1 p.length c1) wr := by kernel_rfl
    have i1 : (Instr.index 50 (.agg #[.slice A1 p.length c1, .slice A2 q.length c2, .slice A3 r.length c3]) (.int .i64 1)).run Try.prog wr = .ok (.slice A2 q.length c2) wr := by kernel_rfl
    have i2 : (Instr.index 50 (.agg #[.slice A1 p.length c1, .slice A2 q.length c2, .slice A3 r.length c3]) (.int .i64 2)).run Try.prog wr = .ok (.slice A3 r.length c3) wr := by kernel_rfl
    rcases hm3 with rfl | rfl | rfl
    · go_upto_region 8 with (fail)
      go_region_law (refine step_append_at rfl (.tmp 26) (.tmp 33) 56 60 (tv 0 nilS nilS) 3 56 rfl Try.underlying56 infoTlv rfl (by decide) (w1.heap.size + 1) (.slice A 0 c) 0 xs ⟨wr.heap.size, 0, none⟩ 1 (acells (tv k.a (.slice A1 p.length c1) nilS)) (own_drew (hown.alloc _)) rfl (fun j u hj => new_drew wr _ _ j u hj) (tv_ones _ _ _ _ _ _ _) rfl rfl (by decide) (by decide) (by simp; omega) ?_; intro g cap w2 hown2 hgr2; have hne : ∀ b, (Value.slice A 0 c).ownBlock = some b → w1.heap.size + 1 ≤ b := (fun b e => (hown.lt b e).1); have hL2 := (HLR.out.alloc (.cells #[.int .u8 (k.a : Int), .slice A1 p.length c1, nilS] 60)).grown (grown_drew hgr2) (fun e => by have := hne _ e.symm; omega); have z3 := hL2.cell 2; have f3 := hL2.free 2)
      all_goals
        have HREL := Lib.hid (MRel.next (m := 0) (by decide) rfl HBR.out HLR.out hown HXS.out.symm hown2 hgr2)
        clear hown hown2 hgr2 hne hL2
        go_wp2
        go_roundw
        case rel => exact HREL.out
        case measure => simp [intOf]
    · go_upto_region 8 with (fail)
      go_region_law (refine step_append_at rfl (.tmp 26) (.tmp 33) 56 60 (tv 0 nilS nilS) 3 56 rfl Try.underlying56 infoTlv rfl (by decide) (w1.heap.size + 1) (.slice A 1 c) 1 xs ⟨wr.heap.size, 0, none⟩ 1 (acells (tv k.b (.slice A2 q.length c2) nilS)) (own_drew (hown.alloc _)) rfl (fun j u hj => new_drew wr _ _ j u hj) (tv_ones _ _ _ _ _ _ _) rfl rfl (by decide) (by decide) (by simp; omega) ?_; intro g cap w2 hown2 hgr2; have hne : ∀ b, (Value.slice A 1 c).ownBlock = some b → w1.heap.size + 1 ≤ b := (fun b e => (hown.lt b e).1); have hL2 := (HLR.out.alloc (.cells #[.int .u8 (k.b : Int), .slice A2 q.length c2, nilS] 60)).grown (grown_drew hgr2) (fun e => by have := hne _ e.symm; omega); have z3 := hL2.cell 2; have f3 := hL2.free 2)
      all_goals
        have HREL := Lib.hid (MRel.next (m := 1) (by decide) rfl HBR.out HLR.out hown HXS.out.symm hown2 hgr2)
        clear hown hown2 hgr2 hne hL2
        go_wp2
        go_roundw
        case rel => exact HREL.out
        case measure => simp [intOf]
    · go_upto_region 8 with (fail)
      go_region_law (refine step_append_at rfl (.tmp 26) (.tmp 33) 56 60 (tv 0 nilS nilS) 3 56 rfl Try.underlying56 infoTlv rfl (by decide) (w1.heap.size + 1) (.slice A 2 c) 2 xs ⟨wr.heap.size, 0, none⟩ 1 (acells (tv k.c (.slice A3 r.length c3) nilS)) (own_drew (hown.alloc _)) rfl (fun j u hj => new_drew wr _ _ j u hj) (tv_ones _ _ _ _ _ _ _) rfl rfl (by decide) (by decide) (by simp; omega) ?_; intro g cap w2 hown2 hgr2; have hne : ∀ b, (Value.slice A 2 c).ownBlock = some b → w1.heap.size + 1 ≤ b := (fun b e => (hown.lt b e).1); have hL2 := (HLR.out.alloc (.cells #[.int .u8 (k.c : Int), .slice A3 r.length c3, nilS] 60)).grown (grown_drew hgr2) (fun e => by have := hne _ e.symm; omega); have z3 := hL2.cell 2; have f3 := hL2.free 2)
      all_goals
        have HREL := Lib.hid (MRel.next (m := 2) (by decide) rfl HBR.out HLR.out hown HXS.out.symm hown2 hgr2)
        clear hown hown2 hgr2 hne hL2
        go_wp2
        go_roundw
        case rel => exact HREL.out
        case measure => simp [intOf]
end Go.Proofs.Ytkjofadabaecfaa
