/-
  The reader's all: elements one behind the other, over the contract of element.
-/
import Derived.Test.YtkjofadabaecfaaTPParts
namespace Go.Proofs.Ytkjofadabaecfaa
open Go.RowKit

/-- How element ends. -/
def ElEnd (W : World) (R d : Nat) (q : List Nat) (res : Except Nat (Bq.T × Nat)) (w : World) (e : Ending) (w' : World) : Prop := w.grownBy w' (some R) ∧ match res with
  | .ok (t, n) => ∃ A1 c1 A2 c2, e = .returned (.tuple #[tv t.tag (.slice A1 t.bytes.length c1) (.slice A2 t.list.length c2), .int .i64 0]) ∧ IsT w' (w.heap.size ≤ ·) (tv t.tag (.slice A1 t.bytes.length c1) (.slice A2 t.list.length c2)) t ∧ Rd W R d (q.drop n) w'
  | .error n => 0 < n ∧ e = .returned (.tuple #[tv 0 nilS nilS, .int .i64 (n : Int)])
theorem ElEnd.cases {W : World} {R d : Nat} {q : List Nat} {res : Except Nat (Bq.T × Nat)} {w w' : World} {e : Ending} (h : ElEnd W R d q res w e w') : w.grownBy w' (some R) ∧
    ((∃ t n A1 c1 A2 c2, res = .ok (t, n) ∧ e = .returned (.tuple #[tv t.tag (.slice A1 t.bytes.length c1) (.slice A2 t.list.length c2), .int .i64 0]) ∧ IsT w' (w.heap.size ≤ ·) (tv t.tag (.slice A1 t.bytes.length c1) (.slice A2 t.list.length c2)) t ∧ Rd W R d (q.drop n) w') ∨
    (∃ n, res = .error n ∧ 0 < n ∧ e = .returned (.tuple #[tv 0 nilS nilS, .int .i64 (n : Int)]))) := by
  obtain ⟨hg, h⟩ := h
  cases hr : res with
  | ok p =>
    obtain ⟨t, n⟩ := p
    rw [hr] at h
    obtain ⟨A1, c1, A2, c2, h1, h2, h3⟩ := h
    exact ⟨hg, .inl ⟨t, n, A1, c1, A2, c2, rfl, h1, h2, h3⟩⟩
  | error n =>
    rw [hr] at h
    exact ⟨hg, .inr ⟨n, rfl, h.1, h.2⟩⟩
/-- How all ends. -/
def AllEnd (R : Nat) (res : Except Nat (List Bq.T)) (w : World) (e : Ending) (w' : World) : Prop := w.grownBy w' (some R) ∧ match res with
  | .ok l => ∃ A c, e = .returned (.tuple #[.slice A l.length c, .int .i64 0]) ∧ ListIs w' (w.heap.size ≤ ·) (.slice A l.length c) l
  | .error n => 0 < n ∧ e = .returned (.tuple #[nilS, .int .i64 (n : Int)])
theorem AllEnd.cases {R : Nat} {res : Except Nat (List Bq.T)} {w w' : World} {e : Ending} (h : AllEnd R res w e w') : w.grownBy w' (some R) ∧
    ((∃ l A c, res = .ok l ∧ e = .returned (.tuple #[.slice A l.length c, .int .i64 0]) ∧ ListIs w' (w.heap.size ≤ ·) (.slice A l.length c) l) ∨
    (∃ n, res = .error n ∧ 0 < n ∧ e = .returned (.tuple #[nilS, .int .i64 (n : Int)]))) := by
  obtain ⟨hg, h⟩ := h
  cases hr : res with
  | ok l =>
    rw [hr] at h
    obtain ⟨A, c, h1, h2⟩ := h
    exact ⟨hg, .inl ⟨l, A, c, rfl, h1, h2⟩⟩
  | error n =>
    rw [hr] at h
    exact ⟨hg, .inr ⟨n, rfl, h.1, h.2⟩⟩
theorem AllEnd.no {R n : Nat} {res : Except Nat (List Bq.T)} {w w' : World} (h : res = .error n) (hn : 0 < n) (hg : w.grownBy w' (some R)) : AllEnd R res w (.returned (.tuple #[nilS, .int .i64 (n : Int)])) w' := by
  rw [h]; exact ⟨hg, hn, rfl⟩
/-- What is still to be read. -/
def restLen (R : Nat) (w : World) : Nat := match w.cell? ⟨R, 1, none⟩ with
  | some (.slice _ n _) => n
  | _ => 0
theorem rest_of {W w : World} {R d : Nat} {q : List Nat} (h : Rd W R d q w) : restLen R w = q.length := by
  obtain ⟨A, c, hl, _⟩ := h.box
  have := hl.cell 1
  simp only [List.getElem?_cons_zero, List.getElem?_cons_succ] at this
  unfold restLen
  rw [this]
/-- That an element is read, where so many levels are left. -/
def ElemOk (lv : Nat) : Prop := ∀ (W : World) (R d : Nat) (q : List Nat) (w : World), d + lv = 16 → Rd W R d q w →
  Calls Try.prog 49 #[.pointer (some ⟨R, 0, none⟩)] w (ElEnd W R d q (Bq.read lv q) w)
/-- That elements are read, where so many levels are left. -/
def AllOk (lv : Nat) : Prop := ∀ (W : World) (R d : Nat) (q : List Nat) (w : World), d + lv = 16 → q.length ≤ 65535 → Rd W R d q w →
  Calls Try.prog 64 #[.pointer (some ⟨R, 0, none⟩)] w (AllEnd R (Bq.items (Bq.read lv) q.length q) w)

/-- The elements of a row under way. -/
def RowSt (B : Nat) (l : List Bq.T) (lv : Value) (wr : World) : Prop :=
  ∃ vs : List Value, vs.length = l.length ∧ wr.ownsRow B 60 3 lv l.length (vs.flatMap acells) ∧ ∀ (i : Nat) v x, vs[i]? = some v → l[i]? = some x → IsT wr (fun b => B ≤ b ∧ lv.ownBlock ≠ some b) v x
section
variable {B : Nat} {l : List Bq.T} {lv : Value} {wr w1 w2 : World}
theorem RowSt.nil (B : Nat) (w : World) : RowSt B [] nilS w := ⟨[], rfl, World.ownsRow_nil _ _ _ _, fun i v x h => by simp at h⟩
theorem RowSt.keep (h : RowSt B l lv wr) (hk : ∀ k, B ≤ k → k < wr.heap.size → w1.heap[k]? = wr.heap[k]?) (hs : wr.heap.size ≤ w1.heap.size) : RowSt B l lv w1 := by
  obtain ⟨vs, h1, h2, h3⟩ := h
  exact ⟨vs, h1, own_far h2 (fun k e => hk k (h2.lt k e).1 (h2.lt k e).2), fun i v x e1 e2 => (h3 i v x e1 e2).keep (fun b hb hlt => ⟨hb, hk b hb.1 hlt⟩) hs⟩
theorem RowSt.form (h : RowSt B l lv wr) : ∃ A c, lv = .slice A l.length c := by
  obtain ⟨_, _, ho, _⟩ := h
  exact own_slice ho
theorem RowSt.list {C : Nat} (h : RowSt B l lv wr) (hl : l.length ≤ 100000) (hC : C ≤ B) : ListIs wr (C ≤ ·) lv l := by
  obtain ⟨vs, hvs, ho, hel⟩ := h
  exact ⟨vs, (own_slIs ho).keep (fun b hb _ => ⟨Nat.le_trans hC hb, rfl⟩) (Nat.le_refl _), hvs, by omega, fun i v x e1 e2 => (hel i v x e1 e2).keep (fun b hb _ => ⟨Nat.le_trans hC hb.1, rfl⟩) (Nat.le_refl _)⟩
/-- One element more: the row is grown. -/
theorem RowSt.elem {v lv' : Value} {x : Bq.T} {vs : List Value} {C : Nat} (hvs : vs.length = l.length)
    (hel : ∀ (i : Nat) u y, vs[i]? = some u → l[i]? = some y → IsT w1 (fun b => B ≤ b ∧ lv.ownBlock ≠ some b) u y)
    (hJ : IsT w1 (C ≤ ·) v x) (hBC : B ≤ C) (hC : ∀ b, lv.ownBlock = some b → b < C) (ho : w2.ownsRow B 60 3 lv' (l.length + 1) (vs.flatMap acells ++ acells v)) (hgr : w1.grownBy w2 lv.ownBlock) (hat : lv'.ownBlock = lv.ownBlock ∨ lv'.ownBlock = some w1.heap.size) :
    RowSt B (l ++ [x]) lv' w2 := by
  have hnew : ∀ b, b < w1.heap.size → lv.ownBlock ≠ some b → lv'.ownBlock ≠ some b := fun b h1 h2 e => by
    rcases hat with hat | hat
    · exact h2 (hat.symm.trans e)
    · rw [hat] at e; injection e with e; omega
  have key : ∀ k, k < w1.heap.size → lv.ownBlock ≠ some k → w2.heap[k]? = w1.heap[k]? := fun k h1 h3 => hgr.block k h1 (fun e => h3 e.symm)
  refine ⟨vs ++ [v], by simp [hvs], ?_, ?_⟩
  · rw [List.length_append, List.flatMap_append]
    have e : ([v] : List Value).flatMap acells = acells v := by simp
    rw [e]
    exact ho
  · intro i u y hu hy
    by_cases hi : i < l.length
    · rw [List.getElem?_append_left (by omega)] at hu hy
      exact (hel i u y hu hy).keep (fun b hb' hlt => ⟨⟨hb'.1, hnew b hlt hb'.2⟩, key b hlt hb'.2⟩) hgr.size
    · rw [List.getElem?_append_right (by omega)] at hu hy
      have hi0 : i - l.length = 0 := by
        have := (List.getElem?_eq_some_iff.1 hy).1
        simp at this; omega
      rw [hi0] at hy
      rw [hvs, hi0] at hu
      simp at hu hy
      subst hu hy
      refine hJ.keep (fun b hb' hlt => ?_) hgr.size
      have hb' : C ≤ b := hb'
      have hne : lv.ownBlock ≠ some b := fun e => by have := hC b e; omega
      exact ⟨⟨by omega, hnew b hlt hne⟩, key b hlt hne⟩
end
theorem gb_keep {w w' : World} {R B : Nat} (h : w.grownBy w' (some R)) (hR : R < B) : ∀ k, B ≤ k → k < w.heap.size → w'.heap[k]? = w.heap[k]? :=
  fun k h1 h2 => h.block k h2 (fun e => by injection e with e; omega)

theorem gb_own {w w1 w2 : World} {r s : Option Nat} (h1 : w.grownBy w1 r) (h2 : w1.grownBy w2 s) (hs : ∀ k, some k = s → w.heap.size ≤ k) : w.grownBy w2 r :=
  ⟨h2.os.trans h1.os, h2.tape.trans h1.tape, h2.output.trans h1.output, Nat.le_trans h1.size h2.size, fun k hk hr => (h2.block k (Nat.lt_of_lt_of_le hk h1.size) (fun e => by have := hs k e; omega)).trans (h1.block k hk hr)⟩

/-- What holds at each round of all's loop. -/
def AllRel (W : World) (R d : Nat) (elem : List Nat → Except Nat (Bq.T × Nat)) (IT : Except Nat (List Bq.T)) (q : List Nat) (w : World) (lst : Value) (wr : World) : Prop :=
  ∃ (k : Nat) (l : List Bq.T), RowSt w.heap.size l lst wr ∧ Rd W R d (q.drop k) wr ∧ w.grownBy wr (some R) ∧ k ≤ q.length ∧ l.length ≤ k ∧ Hid (ItemsAt elem IT q k l)

set_option maxHeartbeats 1000000 in
set_option maxRecDepth 100000 in
theorem all_step (lv : Nat) (hE : ElemOk lv) : AllOk lv := by
  intro W R d q w hd hq h
  obtain ⟨IT, eIT⟩ : ∃ IT, Bq.items (Bq.read lv) q.length q = IT := ⟨_, rfl⟩
  have HIT : Hid (ItemsAt (Bq.read lv) IT q 0 []) := ⟨q.length, by omega, by rw [List.drop_zero, eIT]; cases IT <;> simp [Except.map]⟩
  rw [eIT]
  have HST : Hid (AllRel W R d (Bq.read lv) IT q w nilS w) := ⟨0, [], RowSt.nil _ _, by rw [List.drop_zero]; exact h, World.grownBy.refl w _, Nat.zero_le _, Nat.le_refl _, HIT⟩
  have hRw : R < w.heap.size := h.lt
  have HE := Lib.hid hE
  have HDD := Lib.hid hd
  have HQL := Lib.hid hq
  clear eIT h HIT hE hd hq
  go_enter Try.func64, Try.ntmps64
  go_wp2_with fail
  go_loopw [4] (fun lst wr => AllRel W R d (Bq.read lv) IT q w lst wr) (fun _ wr => restLen R wr)
  case atStart => exact HST.out
  case round =>
    obtain ⟨k, l, hrow, hrd, hgb, hk, hlk, hat⟩ := hrel
    obtain ⟨A, c, hl, hA⟩ := hrd.box
    have z0 := hl.cell 0
    have z1 := hl.cell 1
    simp only [List.getElem?_cons_zero, List.getElem?_cons_succ] at z0 z1
    rw [List.length_drop] at z1
    obtain ⟨A0, c0, rfl⟩ := hrow.form
    have hrl := rest_of hrd
    rw [List.length_drop] at hrl
    by_cases hlt : k < q.length
    · have hp : 0 < q.length - k := by omega
      obtain ⟨M, eM⟩ : ∃ M, q.length - k = M := ⟨_, rfl⟩
      rw [eM] at z1 hp
      have hC := HE.out W R d (q.drop k) wr HDD.out hrd
      obtain ⟨n1, n2⟩ := hat.out.go hlt
      obtain ⟨RR, eRR⟩ : ∃ RR, Bq.read lv (q.drop k) = RR := ⟨_, rfl⟩
      have HB256 := Lib.hid hrd.bytes
      have HN1 := Lib.hid n1
      have HN2 := Lib.hid n2
      have HROW := Lib.hid hrow
      have HGB := Lib.hid hgb
      have HRL := Lib.hid hrl
      have hwr : w.heap.size ≤ wr.heap.size := hgb.size
      clear eM n1 n2 hrow hgb hrd hl hA hrl eRR
      go_wp2_with fail
      refine hC.mono ?_
      intro e w1 hh
      clear hC z0 z1
      obtain ⟨hg1, ⟨t, m, E1, e1, E2, e2, hr, rfl, hJ, hrd1⟩ | ⟨n, hr, hn, rfl⟩⟩ := hh.cases
      rotate_left
      · have hdn : ((n : Int) != 0) = true := by rw [bne_iff_ne]; omega
        have HQ : Hid (∀ o, AllEnd R IT w (.returned (.tuple #[nilS, .int .i64 (n : Int)])) (w1.alloc o)) := fun o =>
          AllEnd.no (HN1.out n hr) hn (gb_trans (gb_trans HGB.out hg1) (gb_below ((Below.refl _ _).alloc (Nat.le_refl _) _)))
        clear hh hg1 hr hn
        go_wp2
        go_ret2
        exact HQ.out _
      obtain ⟨by1, by2, _, _, _⟩ := Bq.read_back lv (q.drop k) t m HB256.out hr
      rw [List.length_drop] at by2
      rw [List.drop_drop] at hrd1
      have HNX := Lib.hid (HN2.out t m hr (by omega))
      have HJ := Lib.hid hJ
      have HRD := Lib.hid hrd1
      have HG1 := Lib.hid (gb_trans HGB.out hg1)
      have hrow1 := HROW.out.keep (gb_keep hg1 hRw) hg1.size
      have HROW1 := Lib.hid hrow1
      have hw1 : wr.heap.size ≤ w1.heap.size := hg1.size
      have HLC : Hid (∀ b, (Value.slice A0 l.length c0).ownBlock = some b → b < wr.heap.size) := by
        obtain ⟨_, _, ho0, _⟩ := HROW.out
        exact fun b e => (ho0.lt b e).2
      have hm : 1 ≤ m := by omega
      have hkm : k + m ≤ q.length := by omega
      obtain ⟨i0, hi0, hz0, hz1, hz2⟩ := info_parts infoTlv
      clear hh hr hJ hrd1 hg1 hrow1 by1 by2
      repeat ((fail_if_success (with_reducible show wpList _ _ _ (⟨some 24, _, _, _, _, _⟩ :: _) _ _)); first | go_values | go_skip | go_guarded | go_step | go_upon | go_back | go_simp)
      generalize hW2 : World.alloc (World.alloc w1 _) _ = W4
      have hb12 : Below w1.heap.size w1 W4 := by rw [← hW2]; exact below_alloc (below_alloc (Below.refl _ _) _) _
      have hc6 : ∀ (b : Nat) u, (acells (tv t.tag (.slice E1 t.bytes.length e1) (.slice E2 t.list.length e2)))[b]? = some u → W4.cell? ((⟨w1.heap.size + 1, 0, none⟩ : Addr).add b) = some u := by
        intro b u hk
        rw [← hW2]
        have h := new_cells (w1.alloc (.cells #[.int .u8 (t.tag : Int), .slice E1 t.bytes.length e1, .slice E2 t.list.length e2] 60)) #[.int .u8 (t.tag : Int), .slice E1 t.bytes.length e1, .slice E2 t.list.length e2] 60 b u hk
        rwa [show (w1.alloc (.cells #[.int .u8 (t.tag : Int), .slice E1 t.bytes.length e1, .slice E2 t.list.length e2] 60)).heap.size = w1.heap.size + 1 from by simp] at h
      obtain ⟨vs, hvs, ho, hel⟩ := HROW1.out.keep (fun k _ hlt => hb12.block k hlt) hb12.size
      have hJ2 := HJ.out.on hb12
      have hRD2 := HRD.out.more hb12
      have hG2 := gb_trans HG1.out (gb_below hb12)
      have hs2 : w.heap.size ≤ W4.heap.size := hG2.size
      have hl32 : l.length ≤ 65535 := by have := HQL.out; omega
      have hb64 : w1.heap.size ≤ W4.heap.size := hb12.size
      clear hW2 hb12
      with_reducible refine wpList_append_own_at _ rfl (.tmp 21) (.tmp 23) 56 rfl w.heap.size 60 i0 (tv 0 nilS nilS) 3 56 Try.underlying56 hi0 hz0 hz1 hz2 rfl (by decide) _ l.length (vs.flatMap acells) ?s1 ho ⟨w1.heap.size + 1, 0, none⟩ 1 1 (acells (tv t.tag (.slice E1 t.bytes.length e1) (.slice E2 t.list.length e2))) ?s2 rfl hc6 (tv_ones _ _ _ _ _ _ _) ?s4 ?s5 ?s6 ?_
      case s1 => rfl
      case s2 => rfl
      case s4 => unfold maxLen; omega
      case s5 => omega
      case s6 => exact hs2
      intro lv5 w5 hown5 hgr5 _ hat5
      have HST5 := Lib.hid (RowSt.elem (C := wr.heap.size) hvs hel hJ2 hwr HLC.out hown5 hgr5 hat5)
      have hne : ∀ k, some k = (Value.slice A0 l.length c0).ownBlock → w.heap.size ≤ k := fun k e => (ho.lt k e.symm).1
      have hRD5 : Rd W R d (q.drop (k + m)) w5 := by
        obtain ⟨A9, c9, hl9, hA9⟩ := hRD2.box
        exact ⟨hRD2.below.grown hgr5 hRD2.below.size (fun b e => Nat.le_trans (by have := HRD.out.below.size; have := HRD.out.le; omega) (hne b e.symm)), hRD2.le, hRD2.deep, A9, c9, hl9.grown hgr5 (fun e => by have := hne R e; omega), hA9⟩
      have hG5 : w.grownBy w5 (some R) := gb_own hG2 hgr5 hne
      have hM5 : restLen R w5 < restLen R wr := by
        rw [rest_of hRD5, List.length_drop, HRL.out]; omega
      have HREL : Hid (AllRel W R d (Bq.read lv) IT q w lv5 w5) := ⟨k + m, l ++ [t], HST5.out, hRD5, hG5, hkm, by rw [List.length_append, List.length_singleton]; omega, HNX⟩
      have HM5 := Lib.hid hM5
      clear hown5 hgr5 hat5 hvs hel hJ2 ho hs2 hc6 HJ HLC hi0 hz0 hz1 hz2 hRD2 hRD5 hG2 hG5 hM5 hne HST5
      go_frame
      go_wp2
      go_roundw
      case rel => exact HREL.out
      case measure => exact HM5.out
    · have hke : k = q.length := by omega
      have h0 : q.length - k = 0 := by omega
      rw [h0] at z1
      have HQ : Hid (AllEnd R IT w (.returned (.tuple #[.slice A0 l.length c0, .int .i64 0])) wr) := by
        have hfin := hat.out.fin (by omega)
        unfold Hid
        rw [hfin]
        exact ⟨hgb, A0, c0, rfl, hrow.list (by have := HQL.out; omega) (Nat.le_refl _)⟩
      clear hrow hrd hgb hat hl hA h0 hke hrl
      go_wp2
      go_ret2
      exact HQ.out
end Go.Proofs.Ytkjofadabaecfaa
