/-
  G21: KBase, side by side.
-/
import Derived.Test.YtnbaajdcakjlmaaDoorQM
import Derived.Test.YtnbaajdcakjlmaaDoorG01
import Derived.WalkMore
import Derived.Outline
import Derived.OwnWalk
import Derived.Test.YtnbaajdcakjlmaaDoorQB
import Derived.Test.YtnbaajdcakjlmaaDoorQS
import Derived.Test.YtnbaajdcakjlmaaDoorQD
import Derived.Test.YtnbaajdcakjlmaaDoorQK
import Derived.Test.YtnbaajdcakjlmaaDoorQJ

/-
  What the walks of stage 12 want: values, nodes and rules in memory.
-/
namespace Go.Proofs.YtnbaajdcakjlmaaDoor
open Go.RowKit
theorem below_new (w : World) (o : Obj) : Below w.heap.size w (w.alloc o) := (Below.refl _ _).alloc (Nat.le_refl _) o

theorem below_new2 (w : World) (o o' : Obj) : Below w.heap.size w ((w.alloc o).alloc o') := ((Below.refl _ _).alloc (Nat.le_refl _) o).alloc (by simp) o'
section
variable {w w1 w2 : World} {g : Nat} {ty : TypeId} {a b c : Value}
theorem Lies.cells3 (h : Lies w g ty [a, b, c]) : (w.cell? ⟨g, 0, none⟩ = some a ∧ w.cell? ⟨g, 1, none⟩ = some b ∧ w.cell? ⟨g, 2, none⟩ = some c) ∧ (w.frozen? ⟨g, 0, none⟩ = false ∧ w.frozen? ⟨g, 1, none⟩ = false ∧ w.frozen? ⟨g, 2, none⟩ = false) :=
  ⟨⟨h.cell 0, h.cell 1, h.cell 2⟩, h.free 0, h.free 1, h.free 2⟩
end

/-- A node's cells. -/
abbrev ncell (n : Zq.Nd) : List Value := [.int .i64 n.op, .int .i64 n.int, .int .i64 n.a, .int .i64 n.b, .string (strOf n.text)]
abbrev ndv (n : Zq.Nd) : Value := .agg #[.int .i64 n.op, .int .i64 n.int, .int .i64 n.a, .int .i64 n.b, .string (strOf n.text)]
def ncells (l : List Zq.Nd) : List Value := l.flatMap ncell
theorem ncells_append (l m : List Zq.Nd) : ncells (l ++ m) = ncells l ++ ncells m := by simp [ncells]
theorem ncells_one (n : Zq.Nd) : ncells [n] = ncell n := by simp [ncells]
theorem ncells_length (l : List Zq.Nd) : (ncells l).length = l.length * 5 := by
  induction l with
  | nil => rfl
  | cons a r ih =>
    have : ncells (a :: r) = ncell a ++ ncells r := rfl
    rw [this, List.length_append, ih]
    simp; omega
theorem ncell_ones (n : Zq.Nd) : ∀ u ∈ ncell n, u.oneCell' = true := by
  intro u hu
  simp at hu
  rcases hu with rfl | rfl | rfl | rfl | rfl <;> rfl
theorem ncells_at : ∀ (ns : List Zq.Nd) (i j : Nat) (n : Zq.Nd), ns[i]? = some n → j < 5 → (ncells ns)[i * 5 + j]? = (ncell n)[j]?
  | [], i, j, n, h, _ => by simp at h
  | a :: r, 0, j, n, h, hj => by
    simp at h
    subst h
    show (ncell a ++ ncells r)[0 * 5 + j]? = _
    rw [List.getElem?_append_left (by simp; omega)]
    simp
  | a :: r, i + 1, j, n, h, hj => by
    show (ncell a ++ ncells r)[(i + 1) * 5 + j]? = _
    rw [List.getElem?_append_right (by simp; omega), show (i + 1) * 5 + j - (ncell a).length = i * 5 + j from by simp; omega]
    exact ncells_at r i j n (by simpa using h) hj

/-- A bool that tells whether two things are equal. -/
def TellsZ (P : Prop) (w : World) (e : Ending) (w' : World) : Prop := Below w.heap.size w w' ∧ ((P ∧ e = .returned (.bool true)) ∨ (¬ P ∧ e = .returned (.bool false)))
theorem TellsZ.yes {P : Prop} {w w' : World} (h : P) (hb : Below w.heap.size w w') : TellsZ P w (.returned (.bool true)) w' := ⟨hb, .inl ⟨h, rfl⟩⟩
theorem TellsZ.no {P : Prop} {w w' : World} (h : ¬ P) (hb : Below w.heap.size w w') : TellsZ P w (.returned (.bool false)) w' := ⟨hb, .inr ⟨h, rfl⟩⟩
/-- A row of nodes in memory, of any size. -/
def NsE (w : World) (ok : Nat → Prop) (v : Value) (ns : List Zq.Nd) : Prop :=
  ∃ A c, v = .slice A ns.length c ∧ ns.length ≤ c ∧ c ≤ 9223372036854775807 ∧ (∀ n ∈ ns, ∀ x ∈ n.text, x < 256) ∧ (0 < ns.length → ∃ b off, A = some ⟨b, off, none⟩ ∧ ok b ∧ b < w.heap.size ∧ ∀ j x, (ncells ns)[j]? = some x → w.cell? ⟨b, off + j, none⟩ = some x)
section
variable {w w' : World} {ok ok' : Nat → Prop} {v : Value} {ns : List Zq.Nd} {A : Option Addr} {n c : Nat}
theorem NsE.keep (h : NsE w ok v ns) (hs : w.heap.size ≤ w'.heap.size) (hk : ∀ b, ok b → b < w.heap.size → ok' b ∧ w'.heap[b]? = w.heap[b]?) : NsE w' ok' v ns := by
  obtain ⟨A, c, rfl, h1, h2, h4, h5⟩ := h
  refine ⟨A, c, rfl, h1, h2, h4, fun h => ?_⟩
  obtain ⟨b, off, rfl, k1, k2, k3⟩ := h5 h
  obtain ⟨g1, g2⟩ := hk b k1 k2
  exact ⟨b, off, rfl, g1, Nat.lt_of_lt_of_le k2 hs, fun j x e => (World.cell?_of_block (a := ⟨b, off + j, none⟩) g2).trans (k3 j x e)⟩
theorem NsE.more (h : NsE w ok v ns) (hb : Below w.heap.size w w') : NsE w' ok v ns := h.keep hb.size (fun b hb' hlt => ⟨hb', hb.block b hlt⟩)
theorem NsE.form (h : NsE w ok v ns) : ∃ A c, v = .slice A ns.length c := by
  obtain ⟨A, c, e, _⟩ := h
  exact ⟨A, c, e⟩
theorem NsE.elem (h : NsE w ok (.slice A n c) ns) {i : Nat} (hi : i < ns.length) :
    ∃ b off x, A = some ⟨b, off, none⟩ ∧ ok b ∧ b < w.heap.size ∧ ns[i]? = some x ∧ (∀ y ∈ x.text, y < 256) ∧
      w.cell? ⟨b, off + i * 5, none⟩ = some (.int .i64 x.op) ∧ w.cell? ⟨b, off + i * 5 + 1, none⟩ = some (.int .i64 x.int) ∧ w.cell? ⟨b, off + i * 5 + 2, none⟩ = some (.int .i64 x.a) ∧ w.cell? ⟨b, off + i * 5 + 3, none⟩ = some (.int .i64 x.b) ∧ w.cell? ⟨b, off + i * 5 + 4, none⟩ = some (.string (strOf x.text)) := by
  obtain ⟨A', c', e, h1, h2, h4, h5⟩ := h
  injection e with e1 e2 e3
  subst e1 e3
  obtain ⟨b, off, rfl, k1, k2, k3⟩ := h5 (by omega)
  have hx : ns[i]? = some ns[i] := List.getElem?_eq_getElem hi
  have hc : ∀ j u, j < 5 → (ncell ns[i])[j]? = some u → w.cell? ⟨b, off + (i * 5 + j), none⟩ = some u := fun j u hj hu => k3 _ u (by rw [ncells_at ns i j _ hx hj, hu])
  refine ⟨b, off, ns[i], rfl, k1, k2, hx, h4 _ (List.getElem_mem hi), hc 0 _ (by omega) rfl, ?_, ?_, ?_, ?_⟩
  all_goals rw [Nat.add_assoc]
  · exact hc 1 _ (by omega) rfl
  · exact hc 2 _ (by omega) rfl
  · exact hc 3 _ (by omega) rfl
  · exact hc 4 _ (by omega) rfl
end
theorem take_sameZ {α : Type} {l m : List α} {k : Nat} {x y : α} (h : l.take k = m.take k) (hx : l[k]? = some x) (hy : m[k]? = some y) (he : x = y) : l.take (k + 1) = m.take (k + 1) := by
  obtain ⟨h1, e1⟩ := List.getElem?_eq_some_iff.1 hx
  obtain ⟨h2, e2⟩ := List.getElem?_eq_some_iff.1 hy
  rw [List.take_succ_eq_append_getElem h1, List.take_succ_eq_append_getElem h2, h, e1, e2, he]
abbrev rcell (u : List Nat × Value × Value) : List Value := [.string (strOf u.1), u.2.1, u.2.2]
def rcells3 (us : List (List Nat × Value × Value)) : List Value := us.flatMap rcell
theorem rcells3_at : ∀ (us : List (List Nat × Value × Value)) (i j : Nat) (u : List Nat × Value × Value), us[i]? = some u → j < 3 → (rcells3 us)[i * 3 + j]? = (rcell u)[j]?
  | [], i, j, n, h, _ => by simp at h
  | a :: r, 0, j, n, h, hj => by
    simp at h
    subst h
    show (rcell a ++ rcells3 r)[0 * 3 + j]? = _
    rw [List.getElem?_append_left (by simp; omega)]
    simp
  | a :: r, i + 1, j, n, h, hj => by
    show (rcell a ++ rcells3 r)[(i + 1) * 3 + j]? = _
    rw [List.getElem?_append_right (by simp; omega), show (i + 1) * 3 + j - (rcell a).length = i * 3 + j from by simp; omega]
    exact rcells3_at r i j n (by simpa using h) hj
abbrev rlV (u : List Nat × Value × Value) : Value := .agg #[.string (strOf u.1), u.2.1, u.2.2]

/-- A rule in memory, of any size. -/
def RlE (w : World) (ok : Nat → Prop) (u : List Nat × Value × Value) (r : Zq.Rl) : Prop :=
  u.1 = r.name ∧ (∀ x ∈ r.name, x < 256) ∧ NsE w ok u.2.1 r.expr ∧ NsE w ok u.2.2 r.cond
section
variable {w w' : World} {ok ok' : Nat → Prop}
theorem RlE.keep {u : List Nat × Value × Value} {r : Zq.Rl} (h : RlE w ok u r) (hs : w.heap.size ≤ w'.heap.size) (hk : ∀ b, ok b → b < w.heap.size → ok' b ∧ w'.heap[b]? = w.heap[b]?) : RlE w' ok' u r := by
  obtain ⟨h1, h2, h4, h5⟩ := h
  exact ⟨h1, h2, h4.keep hs hk, h5.keep hs hk⟩
theorem RlE.more {u : List Nat × Value × Value} {r : Zq.Rl} (h : RlE w ok u r) (hb : Below w.heap.size w w') : RlE w' ok u r := h.keep hb.size (fun b hb' hlt => ⟨hb', hb.block b hlt⟩)
theorem rl_ext {r q : Zq.Rl} (h1 : r.name = q.name) (h2 : r.expr = q.expr) (h3 : r.cond = q.cond) : r = q := by
  cases r
  cases q
  simp only at h1 h2 h3
  subst h1 h2 h3
  rfl
end

/-- Rules in memory, of any size. -/
def RsE (w : World) (ok : Nat → Prop) (v : Value) (rs : List Zq.Rl) : Prop :=
  ∃ A c, v = .slice A rs.length c ∧ rs.length ≤ c ∧ c ≤ 9223372036854775807 ∧ ∃ us : List (List Nat × Value × Value), us.length = rs.length ∧
    (∀ (i : Nat) u r, us[i]? = some u → rs[i]? = some r → RlE w ok u r) ∧
    (0 < rs.length → ∃ b off, A = some ⟨b, off, none⟩ ∧ ok b ∧ b < w.heap.size ∧ ∀ j x, (rcells3 us)[j]? = some x → w.cell? ⟨b, off + j, none⟩ = some x)
section
variable {w w' : World} {ok ok' : Nat → Prop} {v : Value} {rs : List Zq.Rl} {A : Option Addr} {n c : Nat}
theorem RsE.keep (h : RsE w ok v rs) (hs : w.heap.size ≤ w'.heap.size) (hk : ∀ b, ok b → b < w.heap.size → ok' b ∧ w'.heap[b]? = w.heap[b]?) : RsE w' ok' v rs := by
  obtain ⟨A, c, rfl, h1, h2, us, h4, h5, h6⟩ := h
  refine ⟨A, c, rfl, h1, h2, us, h4, fun i u r e1 e2 => (h5 i u r e1 e2).keep hs hk, fun h => ?_⟩
  obtain ⟨b, off, rfl, k1, k2, k3⟩ := h6 h
  obtain ⟨g1, g2⟩ := hk b k1 k2
  exact ⟨b, off, rfl, g1, Nat.lt_of_lt_of_le k2 hs, fun j x e => (World.cell?_of_block (a := ⟨b, off + j, none⟩) g2).trans (k3 j x e)⟩
theorem RsE.more (h : RsE w ok v rs) (hb : Below w.heap.size w w') : RsE w' ok v rs := h.keep hb.size (fun b hb' hlt => ⟨hb', hb.block b hlt⟩)
theorem RsE.form (h : RsE w ok v rs) : ∃ A c, v = .slice A rs.length c := by
  obtain ⟨A, c, e, _⟩ := h
  exact ⟨A, c, e⟩
theorem RsE.elem (h : RsE w ok (.slice A n c) rs) {i : Nat} (hi : i < rs.length) :
    ∃ b off r A1 c1 A2 c2, A = some ⟨b, off, none⟩ ∧ ok b ∧ b < w.heap.size ∧ rs[i]? = some r ∧ RlE w ok (r.name, .slice A1 r.expr.length c1, .slice A2 r.cond.length c2) r ∧
      w.cell? ⟨b, off + i * 3, none⟩ = some (.string (strOf r.name)) ∧ w.cell? ⟨b, off + i * 3 + 1, none⟩ = some (.slice A1 r.expr.length c1) ∧ w.cell? ⟨b, off + i * 3 + 2, none⟩ = some (.slice A2 r.cond.length c2) := by
  obtain ⟨A', c', e, h1, h2, us, h4, h5, h6⟩ := h
  injection e with e1 e2 e3
  subst e1 e3
  obtain ⟨b, off, rfl, k1, k2, k3⟩ := h6 (by omega)
  have hx : rs[i]? = some rs[i] := List.getElem?_eq_getElem hi
  have hu : us[i]? = some (us[i]'(by omega)) := List.getElem?_eq_getElem (by omega)
  have hR := h5 i _ _ hu hx
  generalize us[i]'(by omega) = u at hu hR
  generalize rs[i] = r at hx hR
  obtain ⟨t, ev, wv⟩ := u
  obtain ⟨g1, g2, g4, g5⟩ := hR
  simp only at g1 g4 g5
  subst g1
  obtain ⟨A1, c1, rfl⟩ := g4.form
  obtain ⟨A2, c2, rfl⟩ := g5.form
  have hc : ∀ j y, j < 3 → (rcell (r.name, .slice A1 r.expr.length c1, .slice A2 r.cond.length c2))[j]? = some y → w.cell? ⟨b, off + (i * 3 + j), none⟩ = some y := fun j y hj hy => k3 _ y (by rw [rcells3_at us i j _ hu hj, hy])
  refine ⟨b, off, r, A1, c1, A2, c2, rfl, k1, k2, hx, ⟨rfl, g2, g4, g5⟩, hc 0 _ (by omega) rfl, ?_, ?_⟩
  all_goals rw [Nat.add_assoc]
  · exact hc 1 _ (by omega) rfl
  · exact hc 2 _ (by omega) rfl
theorem below_two (w : World) (o o' : Obj) : Below w.heap.size w ((w.alloc o).alloc o') := ((Below.refl _ _).alloc (Nat.le_refl _) o).alloc (by simp) o'
theorem below_onZ {w w1 w2 : World} (h1 : Below w.heap.size w w1) (h2 : Below w1.heap.size w1 w2) : Below w.heap.size w w2 := h1.trans (h2.mono h1.size)
end
end Go.Proofs.YtnbaajdcakjlmaaDoor
