/-
  QJ: JClone JGet JSmallL JMakers, side by side.
-/
import Derived.Test.YtnbaajdcakjlmaaDoorQS
import Derived.Test.YtnbaajdcakjlmaaDoorQD

/-
  clone: a value in memory of its own.
-/
namespace Go.Proofs.YtnbaajdcakjlmaaDoor
open Go.RowKit

/-- append of texts that came in onto nothing. -/
theorem run_append_texts {w : World} {base n : Nat} {ok : Nat → Prop} {A : Option Addr} {c : Nat} {ns : List (List Nat)} (ty : TypeId) (hS : SlIs w ok (.slice A n c) n (tcells ns)) (hn : ns.length = n)
    (hb : n * 16 ≤ 140737488355328) (hbase : base ≤ w.heap.size) :
    ∃ v' w', (Builtin.append_ #[24, 24] ty #[.slice none 0 0, .slice A n c]).run Tryd.prog w = .ok v' w' ∧ w'.ownsRow base 9 1 v' n (tcells ns) ∧ w.grownBy w' none := by
  obtain ⟨i0, hi, hz0, hz1, hz2⟩ := info_parts infoText
  have hl : (tcells ns).length = n * 1 := by rw [tcells_length, hn, Nat.mul_one]
  have h1 : ∀ u ∈ tcells ns, u.oneCell' = true := fun u hu => by
    simp only [tcells, List.mem_map] at hu
    obtain ⟨p, _, rfl⟩ := hu
    rfl
  have main : ∀ a : Addr, A = some a → (∀ j u, (tcells ns)[j]? = some u → w.cell? (a.add j) = some u) →
      ∃ v' w', (Builtin.append_ #[24, 24] ty #[.slice none 0 0, .slice A n c]).run Tryd.prog w = .ok v' w' ∧ w'.ownsRow base 9 1 v' n (tcells ns) ∧ w.grownBy w' none := by
    rintro a rfl ha
    obtain ⟨v', w', h2, h3, h4, _⟩ := run_append_own (P := Tryd.prog) w base 24 ty 9 i0 (.string ByteArray.empty) 1 16 Tryd.underlying24 hi hz0 hz1 hz2 rfl (by decide) (.slice none 0 0) 0 [] (World.ownsRow_nil _ _ _ _) a n c (tcells ns) hl ha h1 (by unfold maxLen; omega) (by omega) hbase
    rw [Nat.zero_add, List.nil_append] at h3
    exact ⟨v', w', h2, h3, h4⟩
  obtain ⟨A', c', e, _, _, h3⟩ := hS
  injection e with e1 e2 e3
  subst e1 e3
  rcases Nat.eq_zero_or_pos n with h0 | h0
  · have hns : ns = [] := List.eq_nil_of_length_eq_zero (by omega)
    subst hns h0
    cases A with
    | some a => exact main a rfl (fun j u hj => by simp [tcells] at hj)
    | none =>
      refine ⟨.slice none 0 0, w, ?_, World.ownsRow_nil _ _ _ _, World.grownBy.refl w _⟩
      simp [Builtin.append_, run_underlying Tryd.underlying24, sizeOf, typeInfo, hi, Builtin.lenOf, Builtin.firstCells]
  · obtain ⟨b, off, rfl, _, _, hc⟩ := h3 h0
    exact main _ rfl (fun j u hj => by rw [Addr.add_lit]; exact hc j u hj)
theorem append_texts {ops : Array Oper} {rest : List Oper} {o : Oper} {a : Act} {Q : Exit → Act → World → Prop} {w : World} (hgd : o.guard = none) (s x : Operand)
    (ho : o.op = .call { callee := .builtin .append, args := #[s, x], argTypes := #[24, 24] })
    (base : Nat) (n : Nat) (ok : Nat → Prop) (A : Option Addr) (c : Nat) (ns : List (List Nat)) (hn : ns.length = n) (hS : SlIs w ok (.slice A n c) n (tcells ns))
    (hs : a.eval s = .slice none 0 0) (hx : a.eval x = .slice A n c) (hb : n * 16 ≤ 140737488355328) (hbase : base ≤ w.heap.size)
    (h : ∀ v' w', w'.ownsRow base 9 1 v' n (tcells ns) → w.grownBy w' none → wpList Tryd.prog ops Q rest (a.put o.dst v') w') : wpList Tryd.prog ops Q (o :: rest) a w := by
  refine wpList_plain hgd fun K hK => ?_
  obtain ⟨v', w', hrun, h2, h3⟩ := run_append_texts (base := base) o.type hS hn hb hbase
  unfold Oper.wp
  simp [execOp, ho, resolve, invoke, builtin, hs, hx, hrun, Result.andThen]
  exact hK _ _ (h v' w' h2 h3)

/-- A row of values of the call's own: none of its elements lies in the row's own block. -/
def RowJ (B n : Nat) (l : List Jq.J) (lv : Value) (w : World) : Prop :=
  B ≤ w.heap.size ∧ l.length = n ∧ ∃ vs : List Value, vs.length = n ∧ w.ownsRow B 27 6 lv n (vs.flatMap jcells) ∧ ∀ (i : Nat) v x, vs[i]? = some v → l[i]? = some x → IsJ w (fun b => B ≤ b ∧ lv.ownBlock ≠ some b) v x
theorem RowJ.nil {B : Nat} {w : World} (h : B ≤ w.heap.size) : RowJ B 0 [] (.slice none 0 0) w := ⟨h, rfl, [], rfl, World.ownsRow_nil _ _ _ _, fun i v x e => by simp at e⟩
theorem RowJ.on {B n : Nat} {l : List Jq.J} {lv : Value} {w w' : World} (h : RowJ B n l lv w) (hb : Below w.heap.size w w') : RowJ B n l lv w' := by
  obtain ⟨h1, h2, vs, h3, h4, h5⟩ := h
  exact ⟨Nat.le_trans h1 hb.size, h2, vs, h3, own_below h4 hb, fun i v x e1 e2 => (h5 i v x e1 e2).on hb⟩
theorem RowJ.list {B n C : Nat} {l : List Jq.J} {lv : Value} {w : World} (h : RowJ B n l lv w) (hC : C ≤ B) (hl : n * 88 ≤ 140737488355328) : ListIs w (C ≤ ·) lv l := by
  obtain ⟨h1, rfl, vs, h3, h4, h5⟩ := h
  exact ⟨vs, (own_slIs h4).keep (fun b hb _ => ⟨Nat.le_trans hC hb, rfl⟩) (Nat.le_refl _), h3, hl, fun i v x e1 e2 => (h5 i v x e1 e2).keep (fun b hb _ => ⟨Nat.le_trans hC hb.1, rfl⟩) (Nat.le_refl _)⟩
/-- One element more: vs are the elements ahead of it. -/
theorem rowJ_more {B n C : Nat} {l : List Jq.J} {lv lv' v : Value} {x : Jq.J} {w1 w2 : World} {vs : List Value} (hB : B ≤ w1.heap.size) (hl : l.length = n) (hvs : vs.length = n)
    (hel : ∀ (i : Nat) v x, vs[i]? = some v → l[i]? = some x → IsJ w1 (fun b => B ≤ b ∧ lv.ownBlock ≠ some b) v x)
    (hJ : IsJ w1 (C ≤ ·) v x) (hBC : B ≤ C) (hlC : ∀ k, lv.ownBlock = some k → k < C)
    (ho2 : w2.ownsRow B 27 6 lv' (n + 1) (vs.flatMap jcells ++ jcells v)) (hgr : w1.grownBy w2 lv.ownBlock) (hat : lv'.ownBlock = lv.ownBlock ∨ lv'.ownBlock = some w1.heap.size) :
    RowJ B (n + 1) (l ++ [x]) lv' w2 := by
  refine ⟨Nat.le_trans hB hgr.size, by simp [hl], vs ++ [v], by simp [hvs], by rw [List.flatMap_append]; simpa using ho2, ?_⟩
  have hnew : ∀ b, b < w1.heap.size → lv.ownBlock ≠ some b → lv'.ownBlock ≠ some b := fun b h1 h2 e => by
    rcases hat with hat | hat
    · exact h2 (hat.symm.trans e)
    · rw [hat] at e
      injection e with e
      omega
  intro i u y hu hy
  by_cases hi : i < n
  · rw [List.getElem?_append_left (by omega)] at hu hy
    exact (hel i u y hu hy).keep (fun b hb hlt => ⟨⟨hb.1, hnew b hlt hb.2⟩, hgr.block b hlt (fun e => hb.2 e.symm)⟩) hgr.size
  · rw [List.getElem?_append_right (by omega)] at hu hy
    have hi0 : i - n = 0 := by
      have := (List.getElem?_eq_some_iff.1 hy).1
      simp at this; omega
    rw [hl, hi0] at hy
    rw [hvs, hi0] at hu
    simp at hu hy
    subst hu hy
    refine hJ.keep (fun b hb hlt => ?_) hgr.size
    have hb : C ≤ b := hb
    have hne : lv.ownBlock ≠ some b := fun e => by have := hlC b e; omega
    exact ⟨⟨Nat.le_trans hBC hb, hnew b hlt hne⟩, hgr.block b hlt (fun e => hne e.symm)⟩

/-- How clone ends. -/
def CloneEnd (x : Jq.J) (w : World) (e : Ending) (w' : World) : Prop := ∃ u, e = .returned u ∧ IsJ w' (w.heap.size ≤ ·) u x ∧ Below w.heap.size w w'
def CloneOk (x : Jq.J) : Prop := ∀ (ok : Nat → Prop) (v : Value) (w : World), IsJ w ok v x → Calls Tryd.prog 49 #[v] w (CloneEnd x w)
theorem IsJ.of_parts {w : World} {ok : Nat → Prop} {x : Jq.J} {names list : Value} (hk : -9223372036854775808 ≤ x.kind ∧ x.kind ≤ 9223372036854775807) (hi : -9223372036854775808 ≤ x.int ∧ x.int ≤ 9223372036854775807) (ht : x.text.length ≤ 140737488355328 ∧ ∀ y ∈ x.text, y < 256)
    (hS : SlIs w ok names x.names.length (tcells x.names)) (hns : ∀ p ∈ x.names, p.length ≤ 140737488355328 ∧ ∀ y ∈ p, y < 256) (hnl : x.names.length * 16 ≤ 140737488355328) (hL : ListIs w ok list x.list) : IsJ w ok (jv x.kind x.bool x.int (strOf x.text) names list) x := by
  cases x
  obtain ⟨vs, h1, h2, h3, h4⟩ := hL
  exact .mk hk hi ht hS hns hnl h1 h2 h3 h4
theorem six_ones (a b c d e f : Value) (h : ∀ u ∈ [a, b, c, d, e, f], u.oneCell' = true) : ∀ u ∈ jcells (.agg #[a, b, c, d, e, f]), u.oneCell' = true := h
theorem jv_ones (k : Int) (b : Bool) (n : Int) (t : ByteArray) (A1 A2 : Option Addr) (n1 n2 c1 c2 : Nat) : ∀ u ∈ jcells (jv k b n t (.slice A1 n1 c1) (.slice A2 n2 c2)), u.oneCell' = true := by
  intro u hu
  simp [jcells] at hu
  rcases hu with rfl | rfl | rfl | rfl | rfl | rfl <;> rfl

set_option maxHeartbeats 8000000 in
set_option maxRecDepth 100000 in
theorem clone_step (x : Jq.J) (ih : ∀ z ∈ x.list, CloneOk z) : CloneOk x := by
  intro ok v w hJ
  obtain ⟨nv, lv, rfl, hk, hi, ht, hS, hns, hnl, hL⟩ := hJ.parts
  obtain ⟨A0, c0, rfl⟩ := hL.form
  obtain ⟨A9, c9, rfl⟩ := hS.form
  have hll : x.list.length * 88 ≤ 140737488355328 := by
    obtain ⟨_, _, _, h1, _⟩ := hL
    exact h1
  obtain ⟨N, eN⟩ : ∃ N, x.names.length = N := ⟨_, rfl⟩
  obtain ⟨M, eM⟩ : ∃ M, x.list.length = M := ⟨_, rfl⟩
  rw [eN] at hS hnl
  rw [eM] at hll
  have hMs : M ≤ 140737488355328 := by omega
  have hb0 : ∀ o o', Below w.heap.size w ((w.alloc o).alloc o') := fun o o' => ((Below.refl _ _).alloc (Nat.le_refl _) o).alloc (by simp) o'
  have HN := Lib.hid eN
  have HM := Lib.hid eM
  have HL := Lib.hid hL
  have HI := Lib.hid ih
  have HB0 := Lib.hid hb0
  have HS := Lib.hid hS
  have HP := Lib.hid (And.intro hk (And.intro hi (And.intro ht hns)))
  rw [eN, eM]
  rw [eM] at HL
  clear eN eM hL ih hb0 hJ hk hi ht hns hS
  go_enter Tryd.func49, Tryd.ntmps49
  repeat ((fail_if_success (with_reducible show wpList _ _ _ (⟨some 8, _, _, _, _, _⟩ :: _) _ _)); first | go_values | go_skip | go_guarded | go_step | go_upon | go_back | go_simp)
  with_reducible refine append_texts rfl (.const (.slice none 0 0)) (.tmp 7) rfl (w.heap.size + 2) N ok A9 c9 x.names HN.out (HS.out.on (HB0.out _ _)) ?s1 ?s2 ?s3 ?s4 ?_
  case s1 => rfl
  case s2 => rfl
  case s3 => omega
  case s4 => simp
  intro nv2 w2 hown2 hgr2
  obtain ⟨A2, c2, rfl⟩ := own_slice hown2
  have hbw2 : Below w.heap.size w w2 := (HB0.out _ _).trans ⟨hgr2.os, hgr2.tape, hgr2.output, hgr2.size, fun k hk => hgr2.block k (by simp; omega) (by simp)⟩
  have hP2 : w.heap.size + 2 ≤ w2.heap.size := by have := hgr2.size; simp at this; omega
  have hl1 : Lies w2 w.heap.size 27 [.int .i64 x.kind, .bool x.bool, .int .i64 x.int, .string (strOf x.text), .slice A9 N c9, .slice A0 M c0] := ((Lies.new_ rfl).alloc _).grown hgr2 (by simp)
  have hl2 : Lies w2 (w.heap.size + 1) 27 zero6 := (Lies.new_ (cs := zero6) (by simp)).grown hgr2 (by simp)
  obtain ⟨⟨z0, z1, z2, z3, z4, z5⟩, f0, f1, f2, f3, f4, f5⟩ := hl1.six
  have hl3 : Lies (w2.setCell ⟨w.heap.size, 4, none⟩ (.slice A2 N c2)) w.heap.size 27 [.int .i64 x.kind, .bool x.bool, .int .i64 x.int, .string (strOf x.text), .slice A2 N c2, .slice A0 M c0] := by have := hl1.put 4 (.slice A2 N c2); simpa using this
  have hl4 : Lies (w2.setCell ⟨w.heap.size, 4, none⟩ (.slice A2 N c2)) (w.heap.size + 1) 27 zero6 := hl2.gb (gb_set _ _ _ _) (by omega)
  have hown3 := own_far (w' := w2.setCell ⟨w.heap.size, 4, none⟩ (.slice A2 N c2)) hown2 (fun k hk => Below.heap_setCell _ _ _ _ (by have := (hown2.lt k hk).1; show k ≠ w.heap.size; omega))
  have hbw3 : Below w.heap.size w (w2.setCell ⟨w.heap.size, 4, none⟩ (.slice A2 N c2)) := hbw2.setCell (Nat.le_refl _) _
  have hsz3 : (w2.setCell ⟨w.heap.size, 4, none⟩ (.slice A2 N c2)).heap.size = w2.heap.size := by simp [World.setCell]
  have HL3 := Lib.hid hl3
  have HL4 := Lib.hid hl4
  have HO3 := Lib.hid hown3
  have HB3 := Lib.hid hbw3
  have HZ3 := Lib.hid hsz3
  have HP2 := Lib.hid hP2
  clear hgr2 hown2 hbw2 hl1 hl2 hl3 hl4 hown3 hbw3 hsz3 hP2
  go_frame
  go_wp2_with fail
  go_loopw [3, 13] (fun lv i wr => ∃ k : Nat, i = .int .i64 k ∧ k ≤ M ∧ RowJ w2.heap.size k (x.list.take k) lv wr ∧ Below w2.heap.size (w2.setCell ⟨w.heap.size, 4, none⟩ (.slice A2 N c2)) wr) (fun _ i _ => M - (intOf i).toNat)
  case atStart => exact ⟨0, rfl, Nat.zero_le _, RowJ.nil (Nat.le_of_eq HZ3.out.symm), Below.refl _ _⟩
  case round =>
    clear z0 z1 z2 z3 z4 z5 f0 f1 f2 f3 f4 f5
    obtain ⟨k, rfl, hkM, hrow, hb⟩ := hrel
    have hbwr : Below w.heap.size w wr := HB3.out.trans (hb.mono (by have := HP2.out; omega))
    by_cases hlt : k < M
    · obtain ⟨b, off, y, B1, e1, B2, e2, rfl, hbb, hblt, hx, hJ, s0, s1, s2, s3, s4, s5⟩ := (HL.out.on hbwr).elem (by rw [HM.out]; exact hlt)
      have hC := HI.out y (List.mem_of_getElem? hx) ok _ _ (hJ.on ((Below.refl _ _).alloc (Nat.le_refl _) (.cells #[.int .i64 y.kind, .bool y.bool, .int .i64 y.int, .string (strOf y.text), .slice B1 y.names.length e1, .slice B2 y.list.length e2] 27)))
      have hrow1 := hrow.on ((Below.refl _ _).alloc (Nat.le_refl _) (.cells #[.int .i64 y.kind, .bool y.bool, .int .i64 y.int, .string (strOf y.text), .slice B1 y.names.length e1, .slice B2 y.list.length e2] 27))
      have hb1 := hb.alloc (Nat.le_trans (Nat.le_of_eq HZ3.out.symm) hb.size) (.cells #[.int .i64 y.kind, .bool y.bool, .int .i64 y.int, .string (strOf y.text), .slice B1 y.names.length e1, .slice B2 y.list.length e2] 27)
      have HT : Hid (x.list.take (k + 1) = x.list.take k ++ [y]) := by
        obtain ⟨h1, h2⟩ := List.getElem?_eq_some_iff.1 hx
        unfold Hid
        rw [List.take_succ_eq_append_getElem h1, h2]
      clear hx hJ hrow hb hbwr
      go_wp2_with fail
      refine hC.mono ?_
      rintro e w4 ⟨u, rfl, hJ4, hb4⟩
      clear hC
      obtain ⟨E1, g1, E2, g2, rfl⟩ := hJ4.form
      have hrow4 := hrow1.on hb4
      have hb5 := hb1.trans (hb4.mono (show w2.heap.size ≤ _ from hrow1.1))
      have hlC := hrow1
      obtain ⟨r1, r2, vs, r3, r4, r5⟩ := hrow4
      have hrlt : ∀ k, u3.ownBlock = some k → k < (wr.alloc (.cells #[.int .i64 y.kind, .bool y.bool, .int .i64 y.int, .string (strOf y.text), .slice B1 y.names.length e1, .slice B2 y.list.length e2] 27)).heap.size := by
        obtain ⟨_, _, _, _, ho, _⟩ := hlC
        exact fun k e => (ho.lt k e).2
      obtain ⟨i0, hi, hz0, hz1, hz2⟩ := info_parts infoJson
      have HJ4 := Lib.hid hJ4
      have HR1 := Lib.hid hrow1.1
      clear hrow1 hlC hb1 hb4 hJ4 s0 s1 s2 s3 s4 s5
      repeat ((fail_if_success (with_reducible show wpList _ _ _ (⟨some 21, _, _, _, _, _⟩ :: _) _ _)); first | go_values | go_skip | go_guarded | go_step | go_upon | go_back | go_simp)
      with_reducible refine wpList_append_own_at _ rfl (.tmp 17) (.tmp 20) 25 rfl w2.heap.size 27 i0 (jv 0 false 0 ByteArray.empty nilS nilS) 6 88 Tryd.underlying25 hi hz0 hz1 hz2 rfl (by decide) u3 k (vs.flatMap jcells) ?s1 (r4.alloc _) ⟨w4.heap.size, 0, none⟩ 1 1 (jcells (jv y.kind y.bool y.int (strOf y.text) (.slice E1 y.names.length g1) (.slice E2 y.list.length g2))) ?s2 rfl ?s3 (jv_ones _ _ _ _ _ _ _ _ _ _) ?s4 ?s5 ?s6 ?_
      case s1 => rfl
      case s2 => rfl
      case s3 => exact fun j u hj => new_cells w4 _ _ j u hj
      case s4 => unfold maxLen; omega
      case s5 => omega
      case s6 => exact Nat.le_trans r1 (by simp)
      intro lv5 w5 hown5 hgr5 _ hat5
      have hbz := (Below.refl w4.heap.size w4).alloc (Nat.le_refl _) (.cells #[.int .i64 y.kind, .bool y.bool, .int .i64 y.int, .string (strOf y.text), .slice E1 y.names.length g1, .slice E2 y.list.length g2] 27)
      have HR5 := Lib.hid (rowJ_more (Nat.le_trans r1 hbz.size) r2 r3 (fun i v x e1 e2 => (r5 i v x e1 e2).on hbz) (HJ4.out.on hbz) HR1.out hrlt hown5 hgr5 hat5)
      have HB5 := Lib.hid ((hb5.trans (hbz.mono r1)).grown hgr5 (by have := HZ3.out; have := (hb5.trans (hbz.mono r1)).size; omega) (fun k e => (r4.lt k e).1))
      clear hown5 hgr5 hat5 hbz r1 r2 r3 r4 r5 hrlt hb5 hi hz0 hz1 hz2 HJ4 HR1
      go_frame
      go_wp2
      go_roundw
      case rel => exact ⟨k + 1, by go_num, hlt, by rw [HT.out]; exact HR5.out, HB5.out⟩
      case measure => simp [intOf]; omega
    · obtain rfl : k = M := by omega
      have hd2 : decide ((k : Int) < (k : Int)) = false := by simp
      rw [List.take_of_length_le (by rw [HM.out]; exact Nat.le_refl _)] at hrow
      have hlist := hrow.list (C := w.heap.size) (by have := HP2.out; omega) hll
      obtain ⟨A5, c5, rfl⟩ : ∃ A c, u3 = .slice A k c := by
        obtain ⟨_, _, _, _, ho, _⟩ := hrow
        exact own_slice ho
      have hP2 := HP2.out
      have hrB := hrow.1
      have hl3 := HL3.out.below hb (by omega)
      have hl4 := HL4.out.below hb (by omega)
      have hO3 := own_far HO3.out (fun k e => hb.block k (by have := (HO3.out.lt k e).2; have := HZ3.out; omega))
      obtain ⟨⟨z0, z1, z2, z3, z4, z5⟩, f0, f1, f2, f3, f4, f5⟩ := hl3.six
      obtain ⟨⟨y0, y1, y2, y3, y4, y5⟩, g0, g1, g2, g3, g4, g5⟩ := hl4.six
      have hl5 : Lies (wr.setCell ⟨w.heap.size, 5, none⟩ (.slice A5 k c5)) (w.heap.size + 1) 27 zero6 := hl4.gb (gb_set _ _ _ _) (by omega)
      have hl6 : Lies (put6 (wr.setCell ⟨w.heap.size, 5, none⟩ (.slice A5 k c5)) (w.heap.size + 1) (.int .i64 x.kind) (.bool x.bool) (.int .i64 x.int) (.string (strOf x.text)) (.slice A2 N c2) (.slice A5 k c5)) (w.heap.size + 1) 27 [.int .i64 x.kind, .bool x.bool, .int .i64 x.int, .string (strOf x.text), .slice A2 N c2, .slice A5 k c5] := hl5.put6
      have hfar : ∀ k', w.heap.size + 2 ≤ k' → (put6 (wr.setCell ⟨w.heap.size, 5, none⟩ (.slice A5 k c5)) (w.heap.size + 1) (.int .i64 x.kind) (.bool x.bool) (.int .i64 x.int) (.string (strOf x.text)) (.slice A2 N c2) (.slice A5 k c5)).heap[k']? = wr.heap[k']? := fun k' h => by
        rw [put6_far (by omega), Below.heap_setCell _ _ _ _ (by show k' ≠ w.heap.size; omega)]
      have hsz6 : (put6 (wr.setCell ⟨w.heap.size, 5, none⟩ (.slice A5 k c5)) (w.heap.size + 1) (.int .i64 x.kind) (.bool x.bool) (.int .i64 x.int) (.string (strOf x.text)) (.slice A2 N c2) (.slice A5 k c5)).heap.size = wr.heap.size := by simp [World.setCell]
      have hbf : Below w.heap.size w (put6 (wr.setCell ⟨w.heap.size, 5, none⟩ (.slice A5 k c5)) (w.heap.size + 1) (.int .i64 x.kind) (.bool x.bool) (.int .i64 x.int) (.string (strOf x.text)) (.slice A2 N c2) (.slice A5 k c5)) :=
        (hbwr.setCell (p := ⟨w.heap.size, 5, none⟩) (Nat.le_refl _) _).trans (gb_down gb_put6 (by have := hbwr.size; simpa [World.setCell] using this) (Nat.le_succ _))
      have hJF : IsJ (put6 (wr.setCell ⟨w.heap.size, 5, none⟩ (.slice A5 k c5)) (w.heap.size + 1) (.int .i64 x.kind) (.bool x.bool) (.int .i64 x.int) (.string (strOf x.text)) (.slice A2 N c2) (.slice A5 k c5)) (w.heap.size ≤ ·) (jv x.kind x.bool x.int (strOf x.text) (.slice A2 N c2) (.slice A5 k c5)) x := by
        obtain ⟨p1, p2, p3, p4⟩ := HP.out
        refine IsJ.of_parts p1 p2 p3 ?_ p4 (by rw [HN.out]; exact hnl) ?_
        · rw [HN.out]
          exact (own_slIs hO3).keep (fun b hb' _ => ⟨by have : w.heap.size + 2 ≤ b := hb'; show w.heap.size ≤ b; omega, hfar b hb'⟩) (Nat.le_of_eq hsz6.symm)
        · refine (hrow.list (C := w.heap.size + 2) (by omega) hll).keep (fun b hb' _ => ⟨by have : w.heap.size + 2 ≤ b := hb'; show w.heap.size ≤ b; omega, hfar b hb'⟩) (Nat.le_of_eq hsz6.symm)
      obtain ⟨⟨q0, q1, q2, q3, q4, q5⟩, _⟩ := hl6.six
      have HE := Lib.hid (And.intro hJF hbf)
      clear hJF hbf hsz6 hfar hl6 hl5 hO3 hl3 hl4 hrow hb hbwr hlist hP2 hrB
      go_wp2
      exact bodyPost_ret (v := jv x.kind x.bool x.int (strOf x.text) (.slice A2 N c2) (.slice A5 k c5)) (by simp [results, Tryd.results49, go_sem, q0, q1, q2, q3, q4, q5]) rfl ⟨_, rfl, HE.out.1, HE.out.2⟩
theorem clone_any {ok : Nat → Prop} (x : Jq.J) (v : Value) (w : World) (h : IsJ w ok v x) : Calls Tryd.prog 49 #[v] w (CloneEnd x w) :=
  J_ind (P := CloneOk) (fun x ih => clone_step x ih) x ok v w h
end Go.Proofs.YtnbaajdcakjlmaaDoor

/-
  Get: what an object has under a name.
-/
namespace Go.Proofs.YtnbaajdcakjlmaaDoor
open Go.RowKit

/-- What a value has under a name, plain. -/
def getP (x : Jq.J) (t : List Nat) : Option Jq.J :=
  if x.kind = 5 ∧ x.names.length = x.list.length then (match firstAt t x.names with | some k => x.list[k]? | none => none) else none
/-- How Get ends. -/
def GetEnd (res : Option Jq.J) (w : World) (e : Ending) (w' : World) : Prop := Below w.heap.size w w' ∧ match res with
  | some y => ∃ u, e = .returned (.tuple #[u, .bool true]) ∧ IsJ w' (w.heap.size ≤ ·) u y
  | none => e = .returned (.tuple #[jv 0 false 0 ByteArray.empty nilS nilS, .bool false])
theorem GetEnd.no {res : Option Jq.J} {w w' : World} (h : res = none) (hb : Below w.heap.size w w') : GetEnd res w (.returned (.tuple #[jv 0 false 0 ByteArray.empty nilS nilS, .bool false])) w' := by
  rw [h]; exact ⟨hb, rfl⟩
theorem GetEnd.yes {res : Option Jq.J} {y : Jq.J} {u : Value} {w w' : World} (h : res = some y) (hb : Below w.heap.size w w') (hJ : IsJ w' (w.heap.size ≤ ·) u y) : GetEnd res w (.returned (.tuple #[u, .bool true])) w' := by
  rw [h]; exact ⟨hb, u, rfl, hJ⟩

set_option maxHeartbeats 4000000 in
set_option maxRecDepth 100000 in
theorem get_any {ok : Nat → Prop} (x : Jq.J) (v : Value) (t : List Nat) (ht : ∀ y ∈ t, y < 256) (w : World) (hJ : IsJ w ok v x) :
    Calls Tryd.prog 38 #[v, .string (strOf t)] w (GetEnd (getP x t) w) := by
  obtain ⟨nv, lv, rfl, _, _, _, hS, hns, hnl, hL⟩ := hJ.parts
  obtain ⟨A0, c0, rfl⟩ := hL.form
  obtain ⟨A9, c9, rfl⟩ := hS.form
  have hll : x.list.length * 88 ≤ 140737488355328 := by
    obtain ⟨_, _, _, h1, _⟩ := hL
    exact h1
  obtain ⟨N, eN⟩ : ∃ N, x.names.length = N := ⟨_, rfl⟩
  obtain ⟨M, eM⟩ : ∃ M, x.list.length = M := ⟨_, rfl⟩
  obtain ⟨RES, eRES⟩ : ∃ RES, getP x t = RES := ⟨_, rfl⟩
  rw [eRES]
  unfold getP at eRES
  have HN := Lib.hid eN
  have HM := Lib.hid eM
  have hb0 : ∀ o o', Below w.heap.size w ((w.alloc o).alloc o') := fun o o' => ((Below.refl _ _).alloc (Nat.le_refl _) o).alloc (by simp) o'
  obtain ⟨cs, ecs⟩ : ∃ cs, cs = [Value.int .i64 x.kind, .bool x.bool, .int .i64 x.int, .string (strOf x.text), .slice A9 N c9, .slice A0 M c0] := ⟨_, rfl⟩
  obtain ⟨W, eW⟩ : ∃ W, W = (w.alloc (.cells cs.toArray 27)).alloc (.cells zero6.toArray 27) := ⟨_, rfl⟩
  have hbW : Below w.heap.size w W := by rw [eW]; exact hb0 _ _
  have hl1 : Lies W w.heap.size 27 cs := by rw [eW]; exact (Lies.new_ rfl).alloc _
  have hl2 : Lies W (w.heap.size + 1) 27 zero6 := by rw [eW]; exact Lies.new_ (by simp)
  have hsW : W.heap.size = w.heap.size + 2 := by rw [eW]; simp
  have hI := index_any x.names t _ W (hS.on hbW) (fun p hp => (hns p hp).2) ht
  have HL := Lib.hid hL
  rw [eN] at hI
  rw [eN, eM]
  rw [eM] at HL
  rw [ecs] at hl1
  rw [eN, eM] at eRES
  have HW : Hid (W = (w.alloc (.cells #[Value.int .i64 x.kind, .bool x.bool, .int .i64 x.int, .string (strOf x.text), .slice A9 N c9, .slice A0 M c0] 27)).alloc (.cells #[.int .i64 0, .bool false, .int .i64 0, .string ByteArray.empty, nilS, nilS] 27)) := by
    unfold Hid; rw [eW, ecs]
  clear eW ecs hb0 hL hS hns hnl eN eM hJ
  have HL1 := Lib.hid hl1
  have HL2 := Lib.hid hl2
  have HBW := Lib.hid hbW
  have HSW := Lib.hid hsW
  have HE : Hid (RES = none → GetEnd RES w (.returned (.tuple #[jv 0 false 0 ByteArray.empty nilS nilS, .bool false])) W) := fun e => GetEnd.no e hbW
  rw [HW.out] at HE
  have HI := Lib.hid hI
  rw [HW.out] at HI
  clear hl1 hl2 hbW hsW hI HL1
  by_cases h5 : x.kind = 5
  rotate_left
  · have d5 : (x.kind != 5) = true := by rw [bne_iff_ne]; exact h5
    have HQ := Lib.hid (HE.out (by rw [← eRES]; exact if_neg (fun e => h5 e.1)))
    clear h5 eRES
    go_enter Tryd.func38, Tryd.ntmps38
    go_wp2
    exact bodyPost_ret (by simp [results, Tryd.results38, go_sem]; rfl) rfl HQ.out
  have d5 : (x.kind != 5) = false := by rw [h5]; rfl
  by_cases h6 : N = M
  rotate_left
  · have d6 : ((N : Int) != (M : Int)) = true := by rw [bne_iff_ne]; omega
    have HQ := Lib.hid (HE.out (by rw [← eRES]; exact if_neg (fun e => h6 e.2)))
    clear h5 h6 eRES
    go_enter Tryd.func38, Tryd.ntmps38
    go_wp2
    exact bodyPost_ret (by simp [results, Tryd.results38, go_sem]; rfl) rfl HQ.out
  subst h6
  have d6 : ((N : Int) != (N : Int)) = false := by simp
  rw [if_pos ⟨h5, rfl⟩] at eRES
  cases hf : firstAt t x.names with
  | none =>
    rw [hf] at HI eRES
    have HQ := Lib.hid (HE.out eRES.symm)
    clear h5 eRES hf
    go_enter Tryd.func38, Tryd.ntmps38
    go_wp2_with fail
    refine HI.out.mono ?_
    rintro e w1 ⟨rfl, rfl⟩
    clear HI
    go_wp2
    exact bodyPost_ret (by simp [results, Tryd.results38, go_sem]; rfl) rfl HQ.out
  | some k =>
    have hfk := firstAt_iff t x.names
    rw [hf] at HI eRES hfk
    have hkN : k < N := by have := hfk.1; have := HN.out; omega
    have HK := Lib.hid eRES
    clear h5 eRES hf hfk
    obtain ⟨b, off, y, B1, e1, B2, e2, rfl, hbb, hblt, hx, hJ, s0, s1, s2, s3, s4, s5⟩ := (HL.out.on HBW.out).elem (by rw [HM.out]; exact hkN)
    have hC := clone_any y _ W hJ
    have HRY : Hid (RES = some y) := by unfold Hid; rw [← HK.out]; exact hx
    have dk : decide ((k : Int) < 0) = false := decide_eq_false (by omega)
    rw [HW.out] at hC s0 s1 s2 s3 s4 s5
    have HC := Lib.hid hC
    clear hJ hx hC HL HE
    go_enter Tryd.func38, Tryd.ntmps38
    go_wp2_with fail
    refine HI.out.mono ?_
    rintro e w1 ⟨rfl, rfl⟩
    clear HI
    go_wp2_with fail
    refine HC.out.mono ?_
    rintro e w1 ⟨u, rfl, hJu, hb1⟩
    clear HC
    obtain ⟨E1, z1, E2, z2, rfl⟩ := hJu.form
    rw [← HW.out] at hb1 hJu
    have hl2 := HL2.out.below hb1 HL2.out.lt
    have hbf : Below w.heap.size w (put6 w1 (w.heap.size + 1) (.int .i64 y.kind) (.bool y.bool) (.int .i64 y.int) (.string (strOf y.text)) (.slice E1 y.names.length z1) (.slice E2 y.list.length z2)) :=
      (below_more HBW.out hb1).trans (gb_down gb_put6 (below_more HBW.out hb1).size (Nat.le_succ _))
    have hJf := hJu.put6 (g := w.heap.size + 1) (a := .int .i64 y.kind) (b := .bool y.bool) (c := .int .i64 y.int) (d := .string (strOf y.text)) (e := .slice E1 y.names.length z1) (f := .slice E2 y.list.length z2) (by have := HSW.out; omega)
    have HQ := Lib.hid (GetEnd.yes HRY.out hbf (hJf.from (by have := HSW.out; omega)))
    have hlf : Lies (put6 w1 (w.heap.size + 1) (.int .i64 y.kind) (.bool y.bool) (.int .i64 y.int) (.string (strOf y.text)) (.slice E1 y.names.length z1) (.slice E2 y.list.length z2)) (w.heap.size + 1) 27 [.int .i64 y.kind, .bool y.bool, .int .i64 y.int, .string (strOf y.text), .slice E1 y.names.length z1, .slice E2 y.list.length z2] := hl2.put6
    obtain ⟨⟨q0, q1, q2, q3, q4, q5⟩, _⟩ := hlf.six
    obtain ⟨⟨r0, r1, r2, r3, r4, r5⟩, g0, g1, g2, g3, g4, g5⟩ := hl2.six
    clear hb1 hJu hbf hJf hlf hl2 s0 s1 s2 s3 s4 s5
    go_wp2
    exact bodyPost_ret (by simp [results, Tryd.results38, go_sem, q0, q1, q2, q3, q4, q5]) rfl HQ.out
end Go.Proofs.YtnbaajdcakjlmaaDoor

/-
  The law package's small: it answers, whatever it says.
-/
namespace Go.Proofs.YtnbaajdcakjlmaaDoor
open Go.RowKit

/-- A bool, whatever it says. -/
def AnyBool (w : World) (e : Ending) (w' : World) : Prop := (∃ r : Bool, e = .returned (.bool r)) ∧ Below w.heap.size w w'
end Go.Proofs.YtnbaajdcakjlmaaDoor

/-
  What makes values: Text, Int and Object, the program's and the document's.
-/
namespace Go.Proofs.YtnbaajdcakjlmaaDoor
open Go.RowKit

theorem one_alloc (w : World) (o : Obj) : Below w.heap.size w (w.alloc o) := (Below.refl _ _).alloc (Nat.le_refl _) o
set_option maxRecDepth 100000 in
theorem textMade_any (s : ByteArray) (w : World) : Calls Tryd.prog 28 #[.string s] w fun e w' => e = .returned (jv 3 false 0 s nilS nilS) ∧ Below w.heap.size w w' := by
  go_enter Tryd.func28, Tryd.ntmps28
  go_wp2
  exact bodyPost_ret (by simp [results, Tryd.results28, go_sem]) rfl ⟨rfl, one_alloc _ _⟩
set_option maxRecDepth 100000 in
theorem refText_any (s : ByteArray) (w : World) : Calls Tryd.prog 19 #[.string s] w fun e w' => e = .returned (jv 3 false 0 s nilS nilS) ∧ Below w.heap.size w w' := by
  go_enter Tryd.func19, Tryd.ntmps19
  go_wp2
  exact bodyPost_ret (by simp [results, Tryd.results19, go_sem]) rfl ⟨rfl, one_alloc _ _⟩
set_option maxRecDepth 100000 in
theorem intMade_any (n : Int) (w : World) : Calls Tryd.prog 29 #[.int .i64 n] w fun e w' => e = .returned (jv 2 false n ByteArray.empty nilS nilS) ∧ Below w.heap.size w w' := by
  go_enter Tryd.func29, Tryd.ntmps29
  go_wp2
  exact bodyPost_ret (by simp [results, Tryd.results29, go_sem]; rfl) rfl ⟨rfl, one_alloc _ _⟩
set_option maxRecDepth 100000 in
theorem refObject_any (A9 A0 : Option Addr) (n m c d : Nat) (w : World) : Calls Tryd.prog 14 #[.slice A9 n c, .slice A0 m d] w fun e w' => e = .returned (jv 5 false 0 ByteArray.empty (.slice A9 n c) (.slice A0 m d)) ∧ Below w.heap.size w w' := by
  go_enter Tryd.func14, Tryd.ntmps14
  go_wp2
  exact bodyPost_ret (by simp [results, Tryd.results14, go_sem]; rfl) rfl ⟨rfl, one_alloc _ _⟩
/-- A value that is an object of these. -/
theorem isJ_obj {w : World} {ok : Nat → Prop} {nv lv : Value} {ns : List (List Nat)} {l : List Jq.J} (hS : SlIs w ok nv ns.length (tcells ns)) (hns : ∀ p ∈ ns, p.length ≤ 140737488355328 ∧ ∀ y ∈ p, y < 256) (hnl : ns.length * 16 ≤ 140737488355328) (hL : ListIs w ok lv l) :
    IsJ w ok (jv 5 false 0 ByteArray.empty nv lv) (Jq.objJ ns l) := by
  have e : strOf [] = ByteArray.empty := rfl
  obtain ⟨vs, h1, h2, h3, h4⟩ := hL
  rw [← e]
  exact .mk (by omega) (by omega) ⟨Nat.zero_le _, fun _ h => nomatch h⟩ hS hns hnl h1 h2 h3 h4

end Go.Proofs.YtnbaajdcakjlmaaDoor
