/-
  Elements in memory: what one reads as; a struct of three cells; the elements of a list.
-/
import Derived.Test.YtkjofadabaecfaaTMem
import Derived.Test.YtkjofadabaecfaaTB
namespace Go.Proofs.Ytkjofadabaecfaa
open Go.RowKit

abbrev nilS : Value := .slice none 0 0
/-- An element's three cells. -/
abbrev tv (a : Nat) (bytes list : Value) : Value := .agg #[.int .u8 (a : Int), bytes, list]
def acells : Value → List Value
  | .agg cs => cs.toList
  | v => [v]
/-- A slice of n elements whose cells are these, in blocks of which ok speaks. -/
def SlIs (w : World) (ok : Nat → Prop) (v : Value) (n : Nat) (cs : List Value) : Prop :=
  ∃ A c, v = .slice A n c ∧ n ≤ c ∧ c ≤ 9223372036854775807 ∧ (0 < n → ∃ b off, A = some ⟨b, off, none⟩ ∧ ok b ∧ b < w.heap.size ∧ ∀ j x, cs[j]? = some x → w.cell? ⟨b, off + j, none⟩ = some x)
/-- What a value reads as, all its blocks such of which ok speaks. -/
inductive IsT (w : World) (ok : Nat → Prop) : Value → Bq.T → Prop where
  | mk {a : Nat} {b : List Nat} {l : List Bq.T} {bv lv : Value} {vs : List Value}
      (ha : a < 256) (hb : SlIs w ok bv b.length (u8s b)) (hbt : b.length ≤ 140737488355328 ∧ ∀ x ∈ b, x < 256)
      (hl : SlIs w ok lv l.length (vs.flatMap acells)) (hvl : vs.length = l.length) (hll : l.length * 56 ≤ 140737488355328)
      (he : ∀ (i : Nat) v x, vs[i]? = some v → l[i]? = some x → IsT w ok v x) : IsT w ok (tv a bv lv) (.mk a b l)
theorem SlIs.nil (w : World) (ok : Nat → Prop) : SlIs w ok (.slice none 0 0) 0 [] := ⟨none, 0, rfl, Nat.le_refl _, by omega, fun h => absurd h (Nat.lt_irrefl _)⟩
theorem SlIs.keep {w w' : World} {ok ok' : Nat → Prop} {v : Value} {n : Nat} {cs : List Value} (h : SlIs w ok v n cs) (hk : ∀ b, ok b → b < w.heap.size → ok' b ∧ w'.heap[b]? = w.heap[b]?) (hs : w.heap.size ≤ w'.heap.size) : SlIs w' ok' v n cs := by
  obtain ⟨A, c, rfl, h1, h2, h3⟩ := h
  refine ⟨A, c, rfl, h1, h2, fun hn => ?_⟩
  obtain ⟨b, off, rfl, h4, h5, h6⟩ := h3 hn
  obtain ⟨k1, k2⟩ := hk b h4 h5
  exact ⟨b, off, rfl, k1, Nat.lt_of_lt_of_le h5 hs, fun j x hj => (World.cell?_of_block (a := ⟨b, off + j, none⟩) k2).trans (h6 j x hj)⟩
theorem SlIs.form {w : World} {ok : Nat → Prop} {v : Value} {n : Nat} {cs : List Value} (h : SlIs w ok v n cs) : ∃ A c, v = .slice A n c := by
  obtain ⟨A, c, rfl, _⟩ := h
  exact ⟨A, c, rfl⟩
theorem SlIs.on {w w' : World} {ok : Nat → Prop} {v : Value} {n : Nat} {cs : List Value} (h : SlIs w ok v n cs) (hb : Below w.heap.size w w') : SlIs w' ok v n cs :=
  h.keep (fun b hb' hlt => ⟨hb', hb.block b hlt⟩) hb.size
/-- Bytes that came in. -/
theorem SlIs.arg {w : World} {ok : Nat → Prop} {A : Option Addr} {c : Nat} {q : List Nat} (h : SlIs w ok (.slice A q.length c) q.length (u8s q)) (hq : ∀ x ∈ q, x < 256) : ArgIs w A c q := by
  obtain ⟨A', c', e, h1, h2, h3⟩ := h
  injection e with e1 e2 e3
  subst e1 e3
  refine ⟨h1, h2, hq, fun hp => ?_⟩
  obtain ⟨b, off, rfl, _, h5, h6⟩ := h3 hp
  exact ⟨b, off, rfl, h5, fun j x hj => ⟨hq x (List.mem_of_getElem? hj), h6 j _ (by simp [u8s, hj])⟩⟩
theorem slIs_of_arg {w : World} {A : Option Addr} {c : Nat} {q : List Nat} (h : ArgIs w A c q) : SlIs w (fun _ => True) (.slice A q.length c) q.length (u8s q) := by
  obtain ⟨h1, h2, _, h4⟩ := h
  refine ⟨A, c, rfl, h1, h2, fun hp => ?_⟩
  obtain ⟨b, off, rfl, h5, h6⟩ := h4 hp
  exact ⟨b, off, rfl, trivial, h5, fun j x hj => by
    simp only [u8s, List.getElem?_map, Option.map_eq_some_iff] at hj
    obtain ⟨y, hy, rfl⟩ := hj
    exact (h6 j y hy).2⟩
theorem IsT.keep {w w' : World} {ok ok' : Nat → Prop} (hk : ∀ b, ok b → b < w.heap.size → ok' b ∧ w'.heap[b]? = w.heap[b]?) (hs : w.heap.size ≤ w'.heap.size) {v : Value} {x : Bq.T} (h : IsT w ok v x) : IsT w' ok' v x := by
  induction h with
  | mk h1 h2 h3 h4 h5 h6 _ ih => exact .mk h1 (h2.keep hk hs) h3 (h4.keep hk hs) h5 h6 ih
theorem IsT.on {w w' : World} {ok : Nat → Prop} {v : Value} {x : Bq.T} (h : IsT w ok v x) (hb : Below w.heap.size w w') : IsT w' ok v x :=
  h.keep (fun b hb' hlt => ⟨hb', hb.block b hlt⟩) hb.size
theorem IsT.from {w : World} {B C : Nat} {v : Value} {x : Bq.T} (h : IsT w (B ≤ ·) v x) (hB : C ≤ B) : IsT w (C ≤ ·) v x :=
  h.keep (fun _ hb _ => ⟨Nat.le_trans hB hb, rfl⟩) (Nat.le_refl _)
theorem IsT.any {w : World} {ok : Nat → Prop} {v : Value} {x : Bq.T} (h : IsT w ok v x) : IsT w (fun _ => True) v x := h.keep (fun _ _ _ => ⟨trivial, rfl⟩) (Nat.le_refl _)
theorem IsT.drew {w : World} {ok : Nat → Prop} {v : Value} {x : Bq.T} (h : IsT w ok v x) : IsT w.drew ok v x := IsT.keep (w := w) (w' := w.drew) (ok := ok) (fun _ hb _ => ⟨hb, rfl⟩) (Nat.le_refl _) h
theorem IsT.form {w : World} {ok : Nat → Prop} {v : Value} {x : Bq.T} (h : IsT w ok v x) : ∃ A1 c1 A2 c2, v = tv x.tag (.slice A1 x.bytes.length c1) (.slice A2 x.list.length c2) := by
  cases h with
  | mk h1 h2 h3 h4 h5 h6 h7 =>
    obtain ⟨A1, c1, rfl, _⟩ := h2
    obtain ⟨A2, c2, rfl, _⟩ := h4
    exact ⟨A1, c1, A2, c2, rfl⟩
theorem acells_len {w : World} {ok : Nat → Prop} {v : Value} {x : Bq.T} (h : IsT w ok v x) : (acells v).length = 3 := by
  cases h; rfl
theorem flat_at : ∀ (vs : List Value), (∀ v ∈ vs, (acells v).length = 3) → ∀ (i j : Nat) (v : Value), vs[i]? = some v → j < 3 → (vs.flatMap acells)[i * 3 + j]? = (acells v)[j]?
  | [], _, i, j, v, h, _ => by simp at h
  | a :: r, hl, 0, j, v, h, hj => by
    simp at h
    subst h
    rw [List.flatMap_cons, List.getElem?_append_left (by have := hl a (by simp); omega)]
    simp
  | a :: r, hl, i + 1, j, v, h, hj => by
    have ha := hl a (by simp)
    rw [List.flatMap_cons, List.getElem?_append_right (by omega), show (i + 1) * 3 + j - (acells a).length = i * 3 + j from by omega]
    exact flat_at r (fun v hv => hl v (by simp [hv])) i j v (by simpa using h) hj
/-- A list of elements in memory. -/
def ListIs (w : World) (ok : Nat → Prop) (v : Value) (l : List Bq.T) : Prop :=
  ∃ vs : List Value, SlIs w ok v l.length (vs.flatMap acells) ∧ vs.length = l.length ∧ l.length * 56 ≤ 140737488355328 ∧ ∀ (i : Nat) v x, vs[i]? = some v → l[i]? = some x → IsT w ok v x
theorem IsT.parts {w : World} {ok : Nat → Prop} {v : Value} {x : Bq.T} (h : IsT w ok v x) : ∃ bv lv, v = tv x.tag bv lv ∧ x.tag < 256 ∧ SlIs w ok bv x.bytes.length (u8s x.bytes) ∧ (x.bytes.length ≤ 140737488355328 ∧ ∀ y ∈ x.bytes, y < 256) ∧ ListIs w ok lv x.list := by
  cases h with
  | mk h1 h2 h3 h4 h5 h6 h7 => exact ⟨_, _, rfl, h1, h2, h3, _, h4, h5, h6, h7⟩
theorem ListIs.form {w : World} {ok : Nat → Prop} {v : Value} {l : List Bq.T} (h : ListIs w ok v l) : ∃ A c, v = .slice A l.length c := by
  obtain ⟨_, ⟨A, c, rfl, _⟩, _⟩ := h
  exact ⟨A, c, rfl⟩
theorem ListIs.keep {w w' : World} {ok ok' : Nat → Prop} {v : Value} {l : List Bq.T} (h : ListIs w ok v l) (hk : ∀ b, ok b → b < w.heap.size → ok' b ∧ w'.heap[b]? = w.heap[b]?) (hs : w.heap.size ≤ w'.heap.size) : ListIs w' ok' v l := by
  obtain ⟨vs, h1, h2, h3, h4⟩ := h
  exact ⟨vs, h1.keep hk hs, h2, h3, fun i v x e1 e2 => (h4 i v x e1 e2).keep hk hs⟩
theorem ListIs.on {w w' : World} {ok : Nat → Prop} {v : Value} {l : List Bq.T} (h : ListIs w ok v l) (hb : Below w.heap.size w w') : ListIs w' ok v l :=
  h.keep (fun b hb' hlt => ⟨hb', hb.block b hlt⟩) hb.size
theorem ListIs.len {w : World} {ok : Nat → Prop} {v : Value} {l : List Bq.T} (h : ListIs w ok v l) : l.length * 56 ≤ 140737488355328 := by
  obtain ⟨_, _, _, h3, _⟩ := h
  exact h3
/-- The element at a place: its cells, and that it is one. -/
theorem ListIs.elem {w : World} {ok : Nat → Prop} {A : Option Addr} {n c : Nat} {l : List Bq.T} (h : ListIs w ok (.slice A n c) l) {i : Nat} (hi : i < l.length) :
    ∃ b off x A1 c1 A2 c2, A = some ⟨b, off, none⟩ ∧ ok b ∧ b < w.heap.size ∧ l[i]? = some x ∧ IsT w ok (tv x.tag (.slice A1 x.bytes.length c1) (.slice A2 x.list.length c2)) x ∧
      w.cell? ⟨b, off + i * 3, none⟩ = some (.int .u8 (x.tag : Int)) ∧ w.cell? ⟨b, off + i * 3 + 1, none⟩ = some (.slice A1 x.bytes.length c1) ∧ w.cell? ⟨b, off + i * 3 + 2, none⟩ = some (.slice A2 x.list.length c2) := by
  obtain ⟨vs, ⟨A', c', e, h1, h2, h3⟩, hvs, hl, hel⟩ := h
  injection e with e1 e2 e3
  subst e1 e3
  obtain ⟨b, off, rfl, hb, hlt, hc⟩ := h3 (by omega)
  have hv : vs[i]? = some (vs[i]'(by omega)) := List.getElem?_eq_getElem (by omega)
  have hx : l[i]? = some l[i] := List.getElem?_eq_getElem hi
  have hJ := hel i _ _ hv hx
  obtain ⟨A1, c1, A2, c2, ev⟩ := hJ.form
  have h6 : ∀ v ∈ vs, (acells v).length = 3 := fun v hm => by
    obtain ⟨j, hj, rfl⟩ := List.mem_iff_getElem.1 hm
    exact acells_len (hel j _ _ (List.getElem?_eq_getElem hj) (List.getElem?_eq_getElem (by omega)))
  have hcell : ∀ j u, j < 3 → (acells (vs[i]'(by omega)))[j]? = some u → w.cell? ⟨b, off + (i * 3 + j), none⟩ = some u := fun j u hj hu => hc _ u (by rw [flat_at vs h6 i j _ hv hj, hu])
  rw [ev] at hJ hcell
  refine ⟨b, off, l[i], A1, c1, A2, c2, rfl, hb, hlt, hx, hJ, hcell 0 _ (by omega) rfl, ?_, ?_⟩
  all_goals rw [Nat.add_assoc]
  · exact hcell 1 _ (by omega) rfl
  · exact hcell 2 _ (by omega) rfl
theorem infoTlv : (Try.prog.info? 60).map (fun i => (i.zero, i.size, i.bytes)) = some (some (tv 0 nilS nilS), 3, 56) := by kernel_rfl
theorem tv_ones (a : Nat) (A1 A2 : Option Addr) (n1 n2 c1 c2 : Nat) : ∀ u ∈ acells (tv a (.slice A1 n1 c1) (.slice A2 n2 c2)), u.oneCell' = true := by
  intro u hu
  simp [acells] at hu
  rcases hu with rfl | rfl | rfl <;> rfl
theorem isT_bare (w : World) (ok : Nat → Prop) {a : Nat} (ha : a < 256) : IsT w ok (tv a nilS nilS) (.mk a [] []) :=
  .mk (vs := []) ha (SlIs.nil w ok) ⟨Nat.zero_le _, fun _ h => nomatch h⟩ (SlIs.nil w ok) rfl (Nat.zero_le _) (fun i v x h => by simp at h)

/-! A struct of three cells in a block of the call's own. -/
section
variable {w w' : World} {g : Nat} {ty : TypeId} {a b c x0 x1 x2 : Value}
abbrev put3 (w : World) (g : Nat) (a b c : Value) : World := ((w.setCell ⟨g, 0, none⟩ a).setCell ⟨g, 1, none⟩ b).setCell ⟨g, 2, none⟩ c
theorem Lies.put3 (h : Lies w g ty [x0, x1, x2]) : Lies (put3 w g a b c) g ty [a, b, c] := by
  have := ((h.put 0 a).put 1 b).put 2 c
  simpa using this
theorem Lies.three (h : Lies w g ty [a, b, c]) : (w.cell? ⟨g, 0, none⟩ = some a ∧ w.cell? ⟨g, 1, none⟩ = some b ∧ w.cell? ⟨g, 2, none⟩ = some c) ∧ (w.frozen? ⟨g, 0, none⟩ = false ∧ w.frozen? ⟨g, 1, none⟩ = false ∧ w.frozen? ⟨g, 2, none⟩ = false) :=
  ⟨⟨h.cell 0, h.cell 1, h.cell 2⟩, h.free 0, h.free 1, h.free 2⟩
theorem put3_far {k : Nat} (hk : k ≠ g) : (Go.Proofs.Ytkjofadabaecfaa.put3 w g a b c).heap[k]? = w.heap[k]? := by
  rw [Below.heap_setCell _ _ _ _ hk, Below.heap_setCell _ _ _ _ hk, Below.heap_setCell _ _ _ _ hk]
theorem put3_size : (Go.Proofs.Ytkjofadabaecfaa.put3 w g a b c).heap.size = w.heap.size := by simp [World.setCell]
theorem below_put3 {w0 : World} {B : Nat} (hb : Below B w0 w) (hg : B ≤ g) : Below B w0 (Go.Proofs.Ytkjofadabaecfaa.put3 w g a b c) := ((hb.setCell hg _).setCell hg _).setCell hg _
theorem IsT.put3 {B : Nat} {v : Value} {x : Bq.T} (hJ : IsT w (B ≤ ·) v x) (hg : g < B) : IsT (Go.Proofs.Ytkjofadabaecfaa.put3 w g a b c) (B ≤ ·) v x :=
  hJ.keep (fun k hk _ => ⟨hk, put3_far (by have : B ≤ k := hk; omega)⟩) (Nat.le_of_eq put3_size.symm)
end
theorem below_more {w w1 w2 : World} (h1 : Below w.heap.size w w1) (h2 : Below w1.heap.size w1 w2) : Below w.heap.size w w2 := h1.trans (h2.mono h1.size)
theorem below_alloc {w w1 : World} (h : Below w.heap.size w w1) (o : Obj) : Below w.heap.size w (w1.alloc o) := h.alloc h.size o
/-- A bool that tells whether something is so. -/
def Tells (P : Prop) (w : World) (e : Ending) (w' : World) : Prop := Below w.heap.size w w' ∧ ((P ∧ e = .returned (.bool true)) ∨ (¬ P ∧ e = .returned (.bool false)))
theorem Tells.yes {P : Prop} {w w' : World} (h : P) (hb : Below w.heap.size w w') : Tells P w (.returned (.bool true)) w' := ⟨hb, .inl ⟨h, rfl⟩⟩
theorem Tells.no {P : Prop} {w w' : World} (h : ¬ P) (hb : Below w.heap.size w w') : Tells P w (.returned (.bool false)) w' := ⟨hb, .inr ⟨h, rfl⟩⟩
theorem Tells.as {P : Prop} {w w' : World} {e : Ending} (h : Tells P w e w') : ∃ r : Bool, e = .returned (.bool r) ∧ (r = true ↔ P) ∧ Below w.heap.size w w' := by
  obtain ⟨hb, ⟨h, rfl⟩ | ⟨h, rfl⟩⟩ := h
  · exact ⟨true, rfl, ⟨fun _ => h, fun _ => rfl⟩, hb⟩
  · exact ⟨false, rfl, ⟨fun e => (nomatch e), fun e => absurd e h⟩, hb⟩
theorem below_undrew {B : Nat} {w w' : World} (h : Below B w.drew w') : Below B w w' := ⟨h.os, h.tape, h.output, h.size, h.block⟩
theorem drewN_below {B : Nat} (w : World) (n : Nat) : Below B w (w.drewN n) := ⟨rfl, rfl, rfl, Nat.le_refl _, fun _ _ => rfl⟩
theorem T_ind {P : Bq.T → Prop} (h : ∀ x : Bq.T, (∀ y ∈ x.list, P y) → P x) : ∀ x, P x
  | .mk a b l => h _ fun y _hy => T_ind h y
termination_by x => SizeOf.sizeOf x
decreasing_by
  have hy' : y ∈ l := _hy
  have := List.sizeOf_lt_of_mem hy'
  simp
  omega
theorem T_ext {x y : Bq.T} (h1 : x.tag = y.tag) (h2 : x.bytes = y.bytes) (h3 : x.list = y.list) : x = y := by
  cases x; cases y
  simp only [Bq.T.tag, Bq.T.bytes, Bq.T.list] at h1 h2 h3
  subst h1 h2 h3
  rfl
theorem take_same {l m : List Bq.T} {k : Nat} {x y : Bq.T} (h : l.take k = m.take k) (hx : l[k]? = some x) (hy : m[k]? = some y) (he : x = y) : l.take (k + 1) = m.take (k + 1) := by
  obtain ⟨h1, e1⟩ := List.getElem?_eq_some_iff.1 hx
  obtain ⟨h2, e2⟩ := List.getElem?_eq_some_iff.1 hy
  rw [List.take_succ_eq_append_getElem h1, List.take_succ_eq_append_getElem h2, h, e1, e2, he]
theorem conv_str {w : World} {A : Option Addr} {c : Nat} {q : List Nat} (h : ArgIs w A c q) : (convert 24 9 (.slice A q.length c)).run Try.prog w = .ok (.string (strOf q)) w :=
  conv_any h _ 5 _ Try.underlying24 Try.underlying5 Try.underlying9
end Go.Proofs.Ytkjofadabaecfaa
