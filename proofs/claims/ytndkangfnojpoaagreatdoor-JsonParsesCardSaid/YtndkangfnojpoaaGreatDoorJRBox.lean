/-
  The document's list or object under way: the variable and its two rows; how its reading functions end.
-/
import Derived.Test.YtndkangfnojpoaaGreatDoorJRL
import Derived.Test.YtndkangfnojpoaaGreatDoorQS
import Derived.Test.YtndkangfnojpoaaGreatDoorQA
namespace Go.Proofs.YtndkangfnojpoaaGreatDoor
open Go.RowKit

structure RBox (kind : Int) (B V : Nat) (ns : List (List Nat)) (l : List Jq.J) (nv lv : Value) (w : World) : Prop where
  box : Lies w V 25 [.int .i64 kind, .bool false, .int .i64 0, .string ByteArray.empty, nv, lv]
  names : w.ownsRow B 9 1 nv ns.length (tcells ns)
  nlt : ∀ p ∈ ns, p.length ≤ 140737488355328 ∧ ∀ x ∈ p, x < 256
  rows : ∃ vs : List Value, vs.length = l.length ∧ w.ownsRow B 25 6 lv l.length (vs.flatMap jcells) ∧ ∀ (i : Nat) v x, vs[i]? = some v → l[i]? = some x → IsJ w (fun b => B ≤ b ∧ nv.ownBlock ≠ some b ∧ lv.ownBlock ≠ some b) v x
  apart : ∀ b, nv.ownBlock = some b → lv.ownBlock ≠ some b
  size : B ≤ w.heap.size
  hV : V < B
section
variable {kind : Int} {B V : Nat} {ns : List (List Nat)} {l : List Jq.J} {nv lv : Value} {w w' : World}
theorem RBox.begin (hV : V < B) (hB : B ≤ w.heap.size) (h : Lies w V 25 [.int .i64 kind, .bool false, .int .i64 0, .string ByteArray.empty, nilS, nilS]) : RBox kind B V [] [] nilS nilS w :=
  ⟨h, World.ownsRow_nil _ _ _ _, (fun _ h => nomatch h), ⟨[], rfl, World.ownsRow_nil _ _ _ _, fun i v x h => by simp at h⟩, fun b h => by simp [Value.ownBlock] at h, hB, hV⟩
theorem RBox.on (h : RBox kind B V ns l nv lv w) (hb : Below w.heap.size w w') : RBox kind B V ns l nv lv w' := by
  obtain ⟨vs, hv, ho, hJ⟩ := h.rows
  exact ⟨h.box.below hb h.box.lt, own_below h.names hb, h.nlt, ⟨vs, hv, own_below ho hb, fun i v x h1 h2 => (hJ i v x h1 h2).on hb⟩, h.apart, Nat.le_trans h.size hb.size, h.hV⟩
theorem RBox.cells (h : RBox kind B V ns l nv lv w) : (w.cell? ⟨V, 0, none⟩ = some (.int .i64 kind) ∧ w.cell? ⟨V, 1, none⟩ = some (.bool false) ∧ w.cell? ⟨V, 2, none⟩ = some (.int .i64 0) ∧ w.cell? ⟨V, 3, none⟩ = some (.string ByteArray.empty) ∧ w.cell? ⟨V, 4, none⟩ = some nv ∧ w.cell? ⟨V, 5, none⟩ = some lv) ∧ w.frozen? ⟨V, 4, none⟩ = false ∧ w.frozen? ⟨V, 5, none⟩ = false :=
  ⟨h.box.six.1, h.box.free 4, h.box.free 5⟩
theorem RBox.forms (h : RBox kind B V ns l nv lv w) : (∃ A c, nv = .slice A ns.length c) ∧ ∃ A c, lv = .slice A l.length c := by
  obtain ⟨_, _, ho, _⟩ := h.rows
  exact ⟨own_slice h.names, own_slice ho⟩
theorem RBox.slis (h : RBox kind B V ns l nv lv w) : SlIs w (fun _ => True) nv ns.length (tcells ns) := (own_slIs h.names).keep (fun _ _ _ => ⟨trivial, rfl⟩) (Nat.le_refl _)
theorem RBox.isJ {C : Nat} (h : RBox kind B V ns l nv lv w) (hk : 0 ≤ kind ∧ kind ≤ 9) (hl : l.length ≤ 20000) (hn : ns.length ≤ 20000) (hC : C ≤ B) : IsJ w (C ≤ ·) (jv kind false 0 ByteArray.empty nv lv) (.mk kind false 0 [] ns l) := by
  obtain ⟨vs, hvs, ho, hel⟩ := h.rows
  have e : strOf [] = ByteArray.empty := rfl
  rw [← e]
  exact .mk (by omega) (by omega) ⟨Nat.zero_le _, fun _ h => nomatch h⟩ ((own_slIs h.names).keep (fun b hb _ => ⟨Nat.le_trans hC hb, rfl⟩) (Nat.le_refl _)) h.nlt (by omega)
    ((own_slIs ho).keep (fun b hb _ => ⟨Nat.le_trans hC hb, rfl⟩) (Nat.le_refl _)) hvs (by omega)
    (fun i v x e1 e2 => (hel i v x e1 e2).keep (fun b hb _ => ⟨Nat.le_trans hC hb.1, rfl⟩) (Nat.le_refl _))
/-- One element more: its row is grown, and then the variable is told. -/
theorem RBox.elem {C g cap : Nat} {v : Value} {x : Jq.J} {w1 w2 : World} {vs : List Value} (h : RBox kind B V ns l nv lv w1) (hvs : vs.length = l.length)
    (hel : ∀ (i : Nat) u y, vs[i]? = some u → l[i]? = some y → IsJ w1 (fun b => B ≤ b ∧ nv.ownBlock ≠ some b ∧ lv.ownBlock ≠ some b) u y)
    (hJ : IsJ w1 (C ≤ ·) v x) (hBC : B ≤ C) (hnC : ∀ k, nv.ownBlock = some k → k < C) (hlC : ∀ k, lv.ownBlock = some k → k < C) (hlb : ∀ k, lv.ownBlock = some k → B ≤ k)
    (hgr : w1.grownBy w2 lv.ownBlock) (hg : lv.ownBlock = some g ∨ g = w1.heap.size)
    (e1 : w2.ownsRow B 25 6 (.slice (some ⟨g, 0, none⟩) (l.length + 1) cap) (l.length + 1) (vs.flatMap jcells ++ jcells v)) :
    RBox kind B V ns (l ++ [x]) nv (.slice (some ⟨g, 0, none⟩) (l.length + 1) cap) (w2.setCell ⟨V, 5, none⟩ (.slice (some ⟨g, 0, none⟩) (l.length + 1) cap)) := by
  have hV := h.hV
  have hnlt := h.names.lt
  have hgB : B ≤ g := (e1.lt g rfl).1
  have key : ∀ k, k < w1.heap.size → k ≠ V → lv.ownBlock ≠ some k → (w2.setCell ⟨V, 5, none⟩ (.slice (some ⟨g, 0, none⟩) (l.length + 1) cap)).heap[k]? = w1.heap[k]? := fun k h1 h2 h3 => by
    rw [Below.heap_setCell _ _ _ _ h2, hgr.block k h1 (fun e => h3 e.symm)]
  have hs : w1.heap.size ≤ (w2.setCell ⟨V, 5, none⟩ (.slice (some ⟨g, 0, none⟩) (l.length + 1) cap)).heap.size := by
    have h1 := hgr.size
    have h2 : ∀ (W : World) (a : Addr) (v : Value), (W.setCell a v).heap.size = W.heap.size := fun W a v => by simp [World.setCell]
    rw [h2]; exact h1
  have napart : ∀ b, nv.ownBlock = some b → b ≠ g := fun b hb => by
    rcases hg with hg | hg
    · exact fun e => h.apart b hb (by rw [e]; exact hg)
    · have := (hnlt b hb).2; omega
  refine { h with
    box := by
      have := (h.box.grown hgr (fun e => by have := hlb V e.symm; omega)).put 5 (.slice (some ⟨g, 0, none⟩) (l.length + 1) cap)
      simpa using this
    names := own_far h.names (fun k hk => key k (hnlt k hk).2 (by have := (hnlt k hk).1; omega) (h.apart k hk))
    rows := ⟨vs ++ [v], by simp [hvs], by
      rw [List.length_append, List.flatMap_append]
      have : ([v] : List Value).flatMap jcells = jcells v := by simp
      rw [this]
      exact own_far e1 (fun k hk => Below.heap_setCell _ _ _ _ (show k ≠ V by have := (e1.lt k hk).1; omega)), ?_⟩
    apart := fun b hb => fun e => napart b hb (by simpa [Value.ownBlock] using e.symm)
    size := Nat.le_trans h.size hs }
  intro i u y hu hy
  by_cases hi : i < l.length
  · rw [List.getElem?_append_left (by omega)] at hu hy
    refine (hel i u y hu hy).keep (fun b hb hlt => ⟨⟨hb.1, hb.2.1, fun e => ?_⟩, key b hlt (by have := hb.1; omega) hb.2.2⟩) hs
    have hbg : b = g := by simpa [Value.ownBlock] using e.symm
    rcases hg with hg | hg
    · exact hb.2.2 (by rw [hbg]; exact hg)
    · omega
  · rw [List.getElem?_append_right (by omega)] at hu hy
    have hi0 : i - l.length = 0 := by
      have := (List.getElem?_eq_some_iff.1 hy).1
      simp at this; omega
    rw [hi0] at hy
    rw [hvs, hi0] at hu
    simp at hu hy
    subst hu hy
    refine hJ.keep (fun b hb hlt => ⟨⟨Nat.le_trans hBC hb, fun e => ?_, fun e => ?_⟩, key b hlt (by have : C ≤ b := hb; omega) (fun e => ?_)⟩) hs
    · have := hlC b e; have : C ≤ b := hb; omega
    · have := hnC b e; have : C ≤ b := hb; omega
    · have hbg : b = g := by simpa [Value.ownBlock] using e.symm
      have : C ≤ b := hb
      rcases hg with hg | hg
      · have := hlC g hg; omega
      · omega
/-- One name more. -/
theorem RBox.name {nv' : Value} {t : List Nat} {w2 : World} (h : RBox kind B V ns l nv lv w) (ht : t.length ≤ 140737488355328 ∧ ∀ x ∈ t, x < 256)
    (ho : w2.ownsRow B 9 1 nv' (ns.length + 1) (tcells ns ++ [.string (strOf t)])) (hgr : w.grownBy w2 nv.ownBlock) (hat : nv'.ownBlock = nv.ownBlock ∨ nv'.ownBlock = some w.heap.size) :
    RBox kind B V (ns ++ [t]) l nv' lv (w2.setCell ⟨V, 4, none⟩ nv') := by
  obtain ⟨vs, hvs, hr, hel⟩ := h.rows
  have hV := h.hV
  have hnlt := h.names.lt
  have hs : w.heap.size ≤ (w2.setCell ⟨V, 4, none⟩ nv').heap.size := by
    have h1 := hgr.size
    have h2 : ∀ (W : World) (a : Addr) (v : Value), (W.setCell a v).heap.size = W.heap.size := fun W a v => by simp [World.setCell]
    rw [h2]; exact h1
  have key : ∀ k, k < w.heap.size → k ≠ V → nv.ownBlock ≠ some k → (w2.setCell ⟨V, 4, none⟩ nv').heap[k]? = w.heap[k]? := fun k h1 h2 h3 => by
    rw [Below.heap_setCell _ _ _ _ h2, hgr.block k h1 (fun e => h3 e.symm)]
  have hnew : ∀ b, b < w.heap.size → nv.ownBlock ≠ some b → nv'.ownBlock ≠ some b := fun b h1 h2 e => by
    rcases hat with hat | hat
    · exact h2 (hat.symm.trans e)
    · rw [hat] at e; injection e with e; omega
  refine { h with
    box := by
      have := (h.box.grown hgr (fun e => by have := (hnlt V e.symm).1; omega)).put 4 nv'
      simpa using this
    names := by
      have e : tcells (ns ++ [t]) = tcells ns ++ [.string (strOf t)] := by simp [tcells]
      rw [e, List.length_append]
      exact own_far ho (fun k hk => Below.heap_setCell _ _ _ _ (show k ≠ V by have := (ho.lt k hk).1; omega))
    nlt := fun p hp => by
      rcases List.mem_append.1 hp with hp | hp
      · exact h.nlt p hp
      · rw [List.mem_singleton.1 hp]; exact ht
    rows := ⟨vs, hvs, own_far hr (fun k hk => key k (hr.lt k hk).2 (by have := (hr.lt k hk).1; omega) (fun e => h.apart k e hk)), fun i u y hu hy => (hel i u y hu hy).keep (fun b hb hlt => ⟨⟨hb.1, hnew b hlt hb.2.1, hb.2.2⟩, key b hlt (by have := hb.1; omega) hb.2.1⟩) hs⟩
    apart := fun b hb e => hnew b (hr.lt b e).2 (fun e' => h.apart b e' e) hb
    size := Nat.le_trans h.size hs }
end

/-- A value that was read, the place behind it, what is amiss. -/
abbrev gotV (k : Int) (b : Bool) (n : Int) (t : ByteArray) (names list : Value) (at_ e : Int) : Value := .agg #[.int .i64 k, .bool b, .int .i64 n, .string t, names, list, .int .i64 at_, .int .i64 e]
/-- How a reading function ends. -/
def GotEnd (S : List Nat) (i : Nat) (res : Jq.R Jq.J) (w : World) (e : Ending) (w' : World) : Prop := Below w.heap.size w w' ∧ match res with
  | .ok (x, r) => ∃ A1 c1 A2 c2, ∃ j : Nat, e = .returned (gotV x.kind x.bool x.int (strOf x.text) (.slice A1 x.names.length c1) (.slice A2 x.list.length c2) j 0) ∧ IsJ w' (w.heap.size ≤ ·) (jv x.kind x.bool x.int (strOf x.text) (.slice A1 x.names.length c1) (.slice A2 x.list.length c2)) x ∧ r = S.drop j ∧ j ≤ S.length ∧ i ≤ j
  | .error n => 0 < n ∧ ∃ k b m t A1 n1 c1 A2 n2 c2 at_, e = .returned (gotV k b m t (.slice A1 n1 c1) (.slice A2 n2 c2) at_ n)
section
variable {S : List Nat} {i : Nat} {res : Jq.R Jq.J} {w w' : World} {e : Ending}
theorem GotEnd.cases (h : GotEnd S i res w e w') :
    (∃ x r A1 c1 A2 c2, ∃ j : Nat, res = .ok (x, r) ∧ e = .returned (gotV x.kind x.bool x.int (strOf x.text) (.slice A1 x.names.length c1) (.slice A2 x.list.length c2) j 0) ∧ IsJ w' (w.heap.size ≤ ·) (jv x.kind x.bool x.int (strOf x.text) (.slice A1 x.names.length c1) (.slice A2 x.list.length c2)) x ∧ r = S.drop j ∧ j ≤ S.length ∧ i ≤ j ∧ Below w.heap.size w w') ∨
    (∃ n, res = .error n ∧ 0 < n ∧ (∃ k b m t A1 n1 c1 A2 n2 c2 at_, e = .returned (gotV k b m t (.slice A1 n1 c1) (.slice A2 n2 c2) at_ n)) ∧ Below w.heap.size w w') := by
  obtain ⟨hb, h⟩ := h
  cases hr : res with
  | ok p =>
    obtain ⟨x, r⟩ := p
    rw [hr] at h
    obtain ⟨A1, c1, A2, c2, j, h1, h2, h3, h4, h5⟩ := h
    exact .inl ⟨x, r, A1, c1, A2, c2, j, rfl, h1, h2, h3, h4, h5, hb⟩
  | error n =>
    rw [hr] at h
    exact .inr ⟨n, rfl, h.1, h.2, hb⟩
theorem GotEnd.err {n : Nat} {k m at_ : Int} {b : Bool} {t : ByteArray} {A1 A2 : Option Addr} {n1 c1 n2 c2 : Nat} (h : res = .error n) (hn : 0 < n) (hb : Below w.heap.size w w') : GotEnd S i res w (.returned (gotV k b m t (.slice A1 n1 c1) (.slice A2 n2 c2) at_ n)) w' := by
  rw [h]; exact ⟨hb, hn, _, _, _, _, _, _, _, _, _, _, _, rfl⟩
theorem GotEnd.ok {x : Jq.J} {r : List Nat} {A1 A2 : Option Addr} {c1 c2 j : Nat} (h : res = .ok (x, r)) (hJ : IsJ w' (w.heap.size ≤ ·) (jv x.kind x.bool x.int (strOf x.text) (.slice A1 x.names.length c1) (.slice A2 x.list.length c2)) x) (hr : r = S.drop j) (hj : j ≤ S.length) (hij : i ≤ j) (hb : Below w.heap.size w w') :
    GotEnd S i res w (.returned (gotV x.kind x.bool x.int (strOf x.text) (.slice A1 x.names.length c1) (.slice A2 x.list.length c2) j 0)) w' := by
  rw [h]; exact ⟨hb, _, _, _, _, _, rfl, hJ, hr, hj, hij⟩
end
end Go.Proofs.YtndkangfnojpoaaGreatDoor
