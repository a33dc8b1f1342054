/-
  add: one value more of the values of nodes so far.
-/
import Derived.Test.YtnbaajdcakjlmaaDoorMA
import Derived.Test.YtnbaajdcakjlmaaDoorQD
import Derived.Test.YtnbaajdcakjlmaaDoorQJ
namespace Go.Proofs.YtnbaajdcakjlmaaDoor
open Go.RowKit

/-- Behind an append, the two stores in either order: the element, and the row. -/
def StoredG (w2 w3 : World) (G g i : Nat) (v lv' : Value) : Prop :=
  ∃ a b c d e f, v = .agg #[a, b, c, d, e, f] ∧ (w3 = (putAt w2 g i a b c d e f).setCell ⟨G, 0, none⟩ lv' ∨ w3 = putAt (w2.setCell ⟨G, 0, none⟩ lv') g i a b c d e f)
theorem storedG_a {w2 : World} {G g i : Nat} {a b c d e f lv' : Value} : StoredG w2 ((putAt w2 g i a b c d e f).setCell ⟨G, 0, none⟩ lv') G g i (.agg #[a, b, c, d, e, f]) lv' := ⟨a, b, c, d, e, f, rfl, .inl rfl⟩
theorem storedG_b {w2 : World} {G g i : Nat} {a b c d e f lv' : Value} : StoredG w2 (putAt (w2.setCell ⟨G, 0, none⟩ lv') g i a b c d e f) G g i (.agg #[a, b, c, d, e, f]) lv' := ⟨a, b, c, d, e, f, rfl, .inr rfl⟩
theorem StoredG.far {w2 w3 : World} {G g i : Nat} {v lv' : Value} (h : StoredG w2 w3 G g i v lv') {k : Nat} (h1 : k ≠ G) (h2 : k ≠ g) : w3.heap[k]? = w2.heap[k]? := by
  obtain ⟨a, b, c, d, e, f, rfl, rfl | rfl⟩ := h
  · rw [Below.heap_setCell _ _ _ _ h1, putAt_far h2]
  · rw [putAt_far h2, Below.heap_setCell _ _ _ _ h1]
theorem StoredG.os {w2 w3 : World} {G g i : Nat} {v lv' : Value} (h : StoredG w2 w3 G g i v lv') : w3.os = w2.os ∧ w3.tape = w2.tape ∧ w3.output = w2.output ∧ w3.heap.size = w2.heap.size := by
  obtain ⟨a, b, c, d, e, f, rfl, h⟩ := h
  rcases h with h | h
  · have h1 := gb_putAt (w := w2) (g := g) (i := i) (a := a) (b := b) (c := c) (d := d) (e := e) (f := f)
    have h2 := gb_set (putAt w2 g i a b c d e f) G 0 lv'
    have h3 := putAt_size (w := w2) (g := g) (i := i) (a := a) (b := b) (c := c) (d := d) (e := e) (f := f)
    rw [← h] at h2
    refine ⟨h2.os.trans h1.os, h2.tape.trans h1.tape, h2.output.trans h1.output, ?_⟩
    rw [h, ← h3]
    generalize putAt w2 g i a b c d e f = W
    simp [World.setCell]
  · have h1 := gb_putAt (w := w2.setCell ⟨G, 0, none⟩ lv') (g := g) (i := i) (a := a) (b := b) (c := c) (d := d) (e := e) (f := f)
    have h2 := gb_set w2 G 0 lv'
    have h3 := putAt_size (w := w2.setCell ⟨G, 0, none⟩ lv') (g := g) (i := i) (a := a) (b := b) (c := c) (d := d) (e := e) (f := f)
    rw [← h] at h1 h3
    refine ⟨h1.os.trans h2.os, h1.tape.trans h2.tape, h1.output.trans h2.output, ?_⟩
    rw [h3]
    simp [World.setCell]
theorem StoredG.own {w2 w3 : World} {G g base cap n : Nat} {ty : TypeId} {xs : List Value} {v x0 x1 x2 x3 x4 x5 lv' : Value} (h : StoredG w2 w3 G g (n * 6) v lv') (hGg : G ≠ g)
    (ho : w2.ownsRow base ty 6 (.slice (some ⟨g, 0, none⟩) (n + 1) cap) (n + 1) (xs ++ [x0, x1, x2, x3, x4, x5])) (hx : xs.length = n * 6) : w3.ownsRow base ty 6 (.slice (some ⟨g, 0, none⟩) (n + 1) cap) (n + 1) (xs ++ jcells v) := by
  obtain ⟨a, b, c, d, e, f, rfl, rfl | rfl⟩ := h
  · exact ownsRow_setCell_other (own_putAt ho hx) (by intro e; injection e with e; exact hGg e.symm) _
  · exact own_putAt (ownsRow_setCell_other ho (by intro e; injection e with e; exact hGg e.symm) _) hx
theorem StoredG.lies {w2 w3 : World} {G g i : Nat} {ty : TypeId} {v lv lv' : Value} (h : StoredG w2 w3 G g i v lv') (hGg : G ≠ g) (hl : Lies w2 G ty [lv]) : Lies w3 G ty [lv'] := by
  obtain ⟨a, b, c, d, e, f, rfl, rfl | rfl⟩ := h
  · have := (hl.grown (gb_putAt (w := w2) (g := g) (i := i) (a := a) (b := b) (c := c) (d := d) (e := e) (f := f)) (by simpa using hGg)).put 0 lv'
    simpa using this
  · have := (by have := hl.put 0 lv'; simpa using this : Lies (w2.setCell ⟨G, 0, none⟩ lv') G ty [lv'])
    exact this.grown gb_putAt (by simpa using hGg)
/-- The row has one element more: the rest is as it was. -/
theorem rowJ_add {B n : Nat} {l : List Jq.J} {lv lv' v : Value} {x : Jq.J} {w1 w3 : World} {vs : List Value} (hB : B ≤ w1.heap.size) (hl : l.length = n) (hvs : vs.length = n)
    (hel : ∀ (i : Nat) v x, vs[i]? = some v → l[i]? = some x → IsJ w1 (fun b => B ≤ b ∧ lv.ownBlock ≠ some b) v x)
    (hJ : IsJ w1 (fun b => B ≤ b ∧ lv.ownBlock ≠ some b) v x) (hs : w1.heap.size ≤ w3.heap.size)
    (ho : w3.ownsRow B 27 6 lv' (n + 1) (vs.flatMap jcells ++ jcells v))
    (far : ∀ b, b < w1.heap.size → B ≤ b → lv.ownBlock ≠ some b → lv'.ownBlock ≠ some b ∧ w3.heap[b]? = w1.heap[b]?) : RowJ B (n + 1) (l ++ [x]) lv' w3 := by
  refine ⟨Nat.le_trans hB hs, by simp [hl], vs ++ [v], by simp [hvs], by rw [List.flatMap_append]; simpa using ho, ?_⟩
  have key : ∀ {u : Value} {y : Jq.J}, IsJ w1 (fun b => B ≤ b ∧ lv.ownBlock ≠ some b) u y → IsJ w3 (fun b => B ≤ b ∧ lv'.ownBlock ≠ some b) u y := fun h =>
    h.keep (fun b hb hlt => ⟨⟨hb.1, (far b hlt hb.1 hb.2).1⟩, (far b hlt hb.1 hb.2).2⟩) hs
  intro i u y hu hy
  by_cases hi : i < n
  · rw [List.getElem?_append_left (by omega)] at hu hy
    exact key (hel i u y hu hy)
  · rw [List.getElem?_append_right (by omega)] at hu hy
    have hi0 : i - n = 0 := by
      have := (List.getElem?_eq_some_iff.1 hy).1
      simp at this; omega
    rw [hl, hi0] at hy
    rw [hvs, hi0] at hu
    simp at hu hy
    subst hu hy
    exact key hJ
/-- How add ends. -/
def AddE (B G n : Nat) (l : List Jq.J) (w : World) (e : Ending) (w' : World) : Prop := e = .returned (.tuple #[]) ∧ ∃ lv', Lies w' G 56 [lv'] ∧ RowJ B n l lv' w' ∧ Below G w w'

theorem add_done {B n G g cap : Nat} {l : List Jq.J} {x : Jq.J} {lv v : Value} {w W1 w2 w3 : World} {vs : List Value} (hW : Below w.heap.size w W1) (hGw : G < w.heap.size) (hGB : G < B) (hB : B ≤ W1.heap.size) (hl : l.length = n) (hvs : vs.length = n) (hlv : ∀ k, lv.ownBlock = some k → B ≤ k ∧ k < W1.heap.size)
    (hel : ∀ (i : Nat) v x, vs[i]? = some v → l[i]? = some x → IsJ W1 (fun b => B ≤ b ∧ lv.ownBlock ≠ some b) v x)
    (hJ : IsJ W1 (fun b => B ≤ b ∧ lv.ownBlock ≠ some b) v x) (hG : Lies W1 G 56 [lv]) (hgr : W1.grownBy w2 lv.ownBlock)
    (ho : w2.ownsRow B 27 6 (.slice (some ⟨g, 0, none⟩) (n + 1) cap) (n + 1) (vs.flatMap jcells ++ zero6)) (hx : (vs.flatMap jcells).length = n * 6) (hg : lv.ownBlock = some g ∨ W1.heap.size ≤ g)
    (hst : StoredG w2 w3 G g (n * 6) v (.slice (some ⟨g, 0, none⟩) (n + 1) cap)) : AddE B G (n + 1) (l ++ [x]) w (.returned (.tuple #[])) w3 := by
  have hgB : B ≤ g := (ho.lt g rfl).1
  have hGg : G ≠ g := by omega
  obtain ⟨o1, o2, o3, o4⟩ := hst.os
  have hG2 : Lies w2 G 56 [lv] := hG.grown hgr (fun e => by have := (hlv G e.symm).1; omega)
  have far : ∀ b, b < W1.heap.size → lv.ownBlock ≠ some b → b ≠ G → w3.heap[b]? = W1.heap[b]? := fun b h1 h2 h3 => by
    have hbg : b ≠ g := by
      rcases hg with hg | hg
      · exact fun e => h2 (by rw [e]; exact hg)
      · omega
    rw [hst.far h3 hbg, hgr.block b h1 (fun e => h2 e.symm)]
  refine ⟨rfl, _, hst.lies hGg hG2, rowJ_add hB hl hvs hel hJ (Nat.le_trans hgr.size (Nat.le_of_eq o4.symm)) (hst.own hGg ho hx) (fun b h1 h2 h3 => ⟨?_, far b h1 h3 (by omega)⟩), ?_⟩
  · intro e
    have hbg : b = g := by injection e with e; exact e.symm
    rcases hg with hg | hg
    · exact h3 (by rw [hbg]; exact hg)
    · omega
  · refine ⟨o1.trans (hgr.os.trans hW.os), o2.trans (hgr.tape.trans hW.tape), o3.trans (hgr.output.trans hW.output), ?_, fun k hk => ?_⟩
    · have := hW.size; have := hgr.size; omega
    · rw [far k (by have := hW.size; omega) (fun e => by have := (hlv k e).1; omega) (by omega), hW.block k (by omega)]

set_option maxHeartbeats 4000000 in
set_option maxRecDepth 100000 in
theorem addM_any {B n G : Nat} {l : List Jq.J} (x : Jq.J) (A0 A1 A2 : Option Addr) (cap0 c1 c2 : Nat) (w : World) (hG : Lies w G 56 [.slice A0 n cap0]) (hrow : RowJ B n l (.slice A0 n cap0) w) (hGB : G < B) (hn : n ≤ 1000)
    (hJ : IsJ w (fun b => B ≤ b ∧ (Value.slice A0 n cap0).ownBlock ≠ some b) (jv x.kind x.bool x.int (strOf x.text) (.slice A1 x.names.length c1) (.slice A2 x.list.length c2)) x) :
    Calls Tryd.prog 20 #[.pointer (some ⟨G, 0, none⟩), jv x.kind x.bool x.int (strOf x.text) (.slice A1 x.names.length c1) (.slice A2 x.list.length c2)] w (AddE B G (n + 1) (l ++ [x]) w) := by
  obtain ⟨W1, eW1⟩ : ∃ W1, W1 = w.alloc (jbox x A1 c1 A2 c2) := ⟨_, rfl⟩
  have hb1 : Below w.heap.size w W1 := by rw [eW1]; exact below_new _ _
  have hs1 : W1.heap.size = w.heap.size + 1 := by rw [eW1]; simp
  have hx1 : Lies W1 w.heap.size 27 [.int .i64 x.kind, .bool x.bool, .int .i64 x.int, .string (strOf x.text), .slice A1 x.names.length c1, .slice A2 x.list.length c2] := by rw [eW1]; exact Lies.new_ rfl
  have hG1 := hG.below hb1 hG.lt
  have hGlt := hG.lt
  obtain ⟨hB, hl, vs, hvs, ho, hel⟩ := hrow.on hb1
  have hJ1 := hJ.on hb1
  have holt := hrow.2.2
  obtain ⟨_, _, ho0, _⟩ := holt
  have hlt0 := ho0.lt
  have HW := Lib.hid eW1
  have HX := Lib.hid hx1
  have HG := Lib.hid hG1
  have HO := Lib.hid ho
  have HB1 := Lib.hid hb1
  have HEL := Lib.hid hel
  have HJ := Lib.hid hJ1
  have HLT := Lib.hid hlt0
  have HVS := Lib.hid hvs
  have HLN := Lib.hid hl
  have HS1 := Lib.hid hs1
  have HBS := Lib.hid hB
  clear hb1 hx1 hG1 ho hel hJ1 hJ hrow ho0 hlt0 eW1 hvs hl hG hs1
  obtain ⟨⟨k0, k1, k2, k3, k4, k5⟩, _⟩ := HX.out.six
  have m0 := HG.out.cell 0
  have mf := HG.out.free 0
  have ka : ∀ o, Lies (W1.alloc o) w.heap.size 27 [.int .i64 x.kind, .bool x.bool, .int .i64 x.int, .string (strOf x.text), .slice A1 x.names.length c1, .slice A2 x.list.length c2] := fun o => HX.out.alloc o
  have ka0 := fun o => (ka o).cell 0
  have ka1 := fun o => (ka o).cell 1
  have ka2 := fun o => (ka o).cell 2
  have ka3 := fun o => (ka o).cell 3
  have ka4 := fun o => (ka o).cell 4
  have ka5 := fun o => (ka o).cell 5
  have ma0 := fun o => (HG.out.alloc o).cell 0
  simp only [List.getElem?_cons_zero, List.getElem?_cons_succ] at ka0 ka1 ka2 ka3 ka4 ka5 ma0
  clear ka
  have hll : (n : Int) < (n : Int) + 1 := by omega
  go_enter Tryd.func20, Tryd.ntmps20
  go_upto_region 1 with (fail)
  rw [← HW.out]
  go_region_law (refine step_append_at rfl (.tmp 6) (.tmp 9) 56 27 (jv 0 false 0 ByteArray.empty nilS nilS) 6 88 rfl Tryd.underlying56 infoJson rfl (by decide) B (.slice A0 n cap0) n (vs.flatMap jcells) ⟨W1.heap.size, 0, none⟩ 1 zero6 (by first | exact own_below HO.out (below_new _ _) | exact own_drew (own_below HO.out (below_new _ _))) rfl (by first | exact new6 W1 | exact new6 W1.drew) six_one rfl rfl (by omega) (by omega) (by have := HBS.out; simp; omega) ?_; intro g cap w2 hown2 hgr2 hg2; have hgr : W1.grownBy w2 (Value.slice A0 n cap0).ownBlock := (by first | exact gb_trans (gb_below (below_new _ _)) hgr2 | exact gb_trans (gb_below (below_new W1 _).drew) hgr2); have hg3 : (Value.slice A0 n cap0).ownBlock = some g ∨ W1.heap.size ≤ g := (hg2.elim .inl (fun e => .inr (by rw [e]; simp))); obtain ⟨⟨z0, z1, z2, z3, z4, z5⟩, y0, y1, y2, y3, y4, y5⟩ := six_at hown2 (flat_len HO.out); have hgB : B ≤ g := (hown2.lt g rfl).1; have hgG : ¬ g = G := (by omega); have hGg : ¬ G = g := (by omega); have hG2 := HG.out.grown hgr (fun e => by have := (HLT.out G e.symm).1; omega); have m1 := hG2.cell 0; have mf1 := hG2.free 0; obtain ⟨⟨p0, p1, p2, p3, p4, p5⟩, _⟩ := (HX.out.grown hgr (fun e => by have := (HLT.out _ e.symm).2; omega)).six; have HD : Hid (∀ w3, StoredG w2 w3 G g (n * 6) (jv x.kind x.bool x.int (strOf x.text) (.slice A1 x.names.length c1) (.slice A2 x.list.length c2)) (.slice (some ⟨g, 0, none⟩) (n + 1) cap) → AddE B G (n + 1) (l ++ [x]) w (.returned (.tuple #[])) w3) := (fun w3 hst => add_done HB1.out hGlt hGB HBS.out HLN.out HVS.out (fun k e => by have := HLT.out k e; have := HS1.out; omega) HEL.out HJ.out HG.out hgr hown2 (flat_len HO.out) hg3 hst); clear hown2 hgr2 hg2 hgr hg3 hG2)
  all_goals (go_end0; refine HD.out _ ?_; first | with_reducible exact storedG_a | with_reducible exact storedG_b)
end Go.Proofs.YtnbaajdcakjlmaaDoor
