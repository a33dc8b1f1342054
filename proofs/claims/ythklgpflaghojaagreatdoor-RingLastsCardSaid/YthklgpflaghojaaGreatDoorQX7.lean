/-
  QX7: JRList, side by side.
-/
import Derived.Test.YthklgpflaghojaaGreatDoorQX5
import Derived.Test.YthklgpflaghojaaGreatDoorQX1

/-
  The document's list: lists and objects.
-/
namespace Go.Proofs.YthklgpflaghojaaGreatDoor
open Go.RowKit
/-- What is kept while a list is read. -/
structure RSt (kind : Int) (w : World) (ns : List (List Nat)) (l : List Jq.J) (nv lv : Value) (wr : World) : Prop where
  below : Below w.heap.size w wr
  res : Lies wr w.heap.size 117 zero8
  box : RBox kind (w.heap.size + 2) (w.heap.size + 1) ns l nv lv wr
section
variable {kind : Int} {w wr w1 w2 : World} {ns : List (List Nat)} {l : List Jq.J} {nv lv : Value}
theorem RSt.on (h : RSt kind w ns l nv lv wr) (hb : Below wr.heap.size wr w1) : RSt kind w ns l nv lv w1 :=
  ⟨below_more h.below hb, h.res.below hb h.res.lt, h.box.on hb⟩
theorem RSt.elem {v lv' : Value} {x : Jq.J} {vs : List Value} (h : RSt kind w ns l nv lv wr) (hb : Below wr.heap.size wr w1)
    (hvs : vs.length = l.length) (hel : ∀ (i : Nat) u y, vs[i]? = some u → l[i]? = some y → IsJ w1 (fun b => w.heap.size + 2 ≤ b ∧ nv.ownBlock ≠ some b ∧ lv.ownBlock ≠ some b) u y)
    (hJ : IsJ w1 (wr.heap.size ≤ ·) v x) (ho : w2.ownsRow (w.heap.size + 2) 26 6 lv' (l.length + 1) (vs.flatMap jcells ++ jcells v)) (hgr : w1.grownBy w2 lv.ownBlock) (hat : lv'.ownBlock = lv.ownBlock ∨ lv'.ownBlock = some w1.heap.size) :
    RSt kind w ns (l ++ [x]) nv lv' (w2.setCell ⟨w.heap.size + 1, 5, none⟩ lv') := by
  have h1 := h.on hb
  obtain ⟨_, _, ho0, _⟩ := h.box.rows
  obtain ⟨g, cap, rfl⟩ := own_form ho (by omega)
  have hg : lv.ownBlock = some g ∨ g = w1.heap.size := by
    rcases hat with hat | hat
    · exact .inl (hat.symm.trans rfl)
    · exact .inr (by injection hat)
  refine ⟨?_, ?_, RBox.elem h1.box hvs hel hJ h.box.size (fun k e => (h.box.names.lt k e).2) (fun k e => (ho0.lt k e).2) (fun k e => (ho0.lt k e).1) hgr hg ho⟩
  · exact (h1.below.grown hgr h1.below.size (fun k e => by have := (ho0.lt k e).1; omega)).setCell (Nat.le_succ _) _
  · exact (h1.res.grown hgr (fun e => by have := (ho0.lt _ e.symm).1; omega)).far (show w.heap.size ≠ w.heap.size + 1 by omega) _
theorem RSt.name {nv' : Value} {t : List Nat} (h : RSt kind w ns l nv lv wr) (ht : t.length ≤ 140737488355328 ∧ ∀ x ∈ t, x < 256)
    (ho : w2.ownsRow (w.heap.size + 2) 9 1 nv' (ns.length + 1) (tcells ns ++ [.string (strOf t)])) (hgr : wr.grownBy w2 nv.ownBlock) (hat : nv'.ownBlock = nv.ownBlock ∨ nv'.ownBlock = some wr.heap.size) :
    RSt kind w (ns ++ [t]) l nv' lv (w2.setCell ⟨w.heap.size + 1, 4, none⟩ nv') :=
  ⟨(h.below.grown hgr h.below.size (fun k e => by have := (h.box.names.lt k e).1; omega)).setCell (Nat.le_succ _) _,
   (h.res.grown hgr (fun e => by have := (h.box.names.lt _ e.symm).1; omega)).far (show w.heap.size ≠ w.heap.size + 1 by omega) _, h.box.name ht ho hgr hat⟩
/-- A row's first block, once it is grown. -/
theorem RSt.out {S : List Nat} {i j : Nat} {RES : Jq.R Jq.J} {A1 A2 : Option Addr} {c1 c2 : Nat} {a0 a1 a2 a3 a4 a5 a6 a7 : Value} (h : RSt kind w ns l (.slice A1 ns.length c1) (.slice A2 l.length c2) wr) (hk : 0 ≤ kind ∧ kind ≤ 9) (hl : l.length ≤ 20000) (hn : ns.length ≤ 20000) (hR : RES = .ok (.mk kind false 0 [] ns l, S.drop j)) (hj : j ≤ S.length) (hij : i ≤ j) :
    GotEnd S i RES w (.returned (gotV kind false 0 ByteArray.empty (.slice A1 ns.length c1) (.slice A2 l.length c2) j 0)) (put8 wr w.heap.size a0 a1 a2 a3 a4 a5 a6 a7) :=
  got_ok (x := .mk kind false 0 [] ns l) (C := w.heap.size + 2) hR (h.box.isJ hk hl hn (Nat.le_refl _)) (by omega) rfl hj hij h.below
end
theorem text_ok {R : Jq.R (List Nat)} {x : Jq.J} {r : List Nat} (h : (R.map fun q => (Jq.textJ q.1, q.2) : Jq.R Jq.J) = .ok (x, r)) : ∃ t, R = .ok (t, r) ∧ x = .mk 3 false 0 t [] [] := by
  cases R with
  | error e => cases h
  | ok p =>
    obtain ⟨t, q⟩ := p
    simp only [Except.map, Except.ok.injEq, Prod.mk.injEq] at h
    obtain ⟨h1, h2⟩ := h
    exact ⟨t, by rw [h2], h1.symm⟩
theorem text_err {R : Jq.R (List Nat)} {n : Nat} (h : (R.map fun q => (Jq.textJ q.1, q.2) : Jq.R Jq.J) = .error n) : R = .error n := by
  cases R with
  | error e => simpa [Except.map] using h
  | ok p => cases h
end Go.Proofs.YthklgpflaghojaaGreatDoor
