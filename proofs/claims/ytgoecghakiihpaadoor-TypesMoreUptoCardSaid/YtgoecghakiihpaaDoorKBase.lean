/-
  What the walks of stage 12 want: values, nodes and rules in memory.
-/
import Derived.Test.YtgoecghakiihpaaDoorQM
import Derived.Test.YtgoecghakiihpaaDoorZM
import Derived.WalkMore
import Derived.Outline
import Derived.OwnWalk
namespace Go.Proofs.YtgoecghakiihpaaDoor
open Go.RowKit


/-- A value's six cells. -/
abbrev jv (k : Int) (b : Bool) (n : Int) (t : ByteArray) (names list : Value) : Value := .agg #[.int .i64 k, .bool b, .int .i64 n, .string t, names, list]
def jcells : Value → List Value
  | .agg cs => cs.toList
  | v => [v]
/-- A slice of n elements whose cells are these, in blocks of which ok speaks. -/
def SlIs (w : World) (ok : Nat → Prop) (v : Value) (n : Nat) (cs : List Value) : Prop :=
  ∃ A c, v = .slice A n c ∧ n ≤ c ∧ c ≤ 9223372036854775807 ∧ (0 < n → ∃ b off, A = some ⟨b, off, none⟩ ∧ ok b ∧ b < w.heap.size ∧ ∀ j x, cs[j]? = some x → w.cell? ⟨b, off + j, none⟩ = some x)
def tcells (l : List (List Nat)) : List Value := l.map fun p => .string (strOf p)
/-- What a value reads as, all its blocks such of which ok speaks. -/
inductive IsJ (w : World) (ok : Nat → Prop) : Value → Jq.J → Prop where
  | mk {k : Int} {b : Bool} {n : Int} {t : List Nat} {ns : List (List Nat)} {l : List Jq.J} {names list : Value} {vs : List Value}
      (hk : -9223372036854775808 ≤ k ∧ k ≤ 9223372036854775807) (hn : -9223372036854775808 ≤ n ∧ n ≤ 9223372036854775807)
      (ht : t.length ≤ 140737488355328 ∧ ∀ x ∈ t, x < 256)
      (hns : SlIs w ok names ns.length (tcells ns)) (hnt : ∀ p ∈ ns, p.length ≤ 140737488355328 ∧ ∀ x ∈ p, x < 256) (hnl : ns.length * 16 ≤ 140737488355328)
      (hl : SlIs w ok list l.length (vs.flatMap jcells)) (hvl : vs.length = l.length) (hll : l.length * 88 ≤ 140737488355328)
      (he : ∀ (i : Nat) v x, vs[i]? = some v → l[i]? = some x → IsJ w ok v x) : IsJ w ok (jv k b n (strOf t) names list) (.mk k b n t ns l)
theorem SlIs.nil (w : World) (ok : Nat → Prop) : SlIs w ok (.slice none 0 0) 0 [] := ⟨none, 0, rfl, Nat.le_refl _, by omega, fun h => absurd h (Nat.lt_irrefl _)⟩
theorem SlIs.keep {w w' : World} {ok ok' : Nat → Prop} {v : Value} {n : Nat} {cs : List Value} (h : SlIs w ok v n cs) (hk : ∀ b, ok b → b < w.heap.size → ok' b ∧ w'.heap[b]? = w.heap[b]?) (hs : w.heap.size ≤ w'.heap.size) : SlIs w' ok' v n cs := by
  obtain ⟨A, c, rfl, h1, h2, h3⟩ := h
  refine ⟨A, c, rfl, h1, h2, fun hn => ?_⟩
  obtain ⟨b, off, rfl, h4, h5, h6⟩ := h3 hn
  obtain ⟨k1, k2⟩ := hk b h4 h5
  exact ⟨b, off, rfl, k1, Nat.lt_of_lt_of_le h5 hs, fun j x hj => (World.cell?_of_block (a := ⟨b, off + j, none⟩) k2).trans (h6 j x hj)⟩
theorem IsJ.keep {w w' : World} {ok ok' : Nat → Prop} (hk : ∀ b, ok b → b < w.heap.size → ok' b ∧ w'.heap[b]? = w.heap[b]?) (hs : w.heap.size ≤ w'.heap.size) {v : Value} {x : Jq.J} (h : IsJ w ok v x) : IsJ w' ok' v x := by
  induction h with
  | mk h1 h2 h3 h4 h5 h6 h7 h8 h9 _ ih => exact .mk h1 h2 h3 (h4.keep hk hs) h5 h6 (h7.keep hk hs) h8 h9 ih
theorem IsJ.form {w : World} {ok : Nat → Prop} {v : Value} {x : Jq.J} (h : IsJ w ok v x) : ∃ A1 c1 A2 c2, v = jv x.kind x.bool x.int (strOf x.text) (.slice A1 x.names.length c1) (.slice A2 x.list.length c2) := by
  cases h with
  | mk h1 h2 h3 h4 h5 h6 h7 h8 h9 h10 =>
    obtain ⟨A1, c1, rfl, _⟩ := h4
    obtain ⟨A2, c2, rfl, _⟩ := h7
    exact ⟨A1, c1, A2, c2, rfl⟩

theorem jcells_len {w : World} {ok : Nat → Prop} {v : Value} {x : Jq.J} (h : IsJ w ok v x) : (jcells v).length = 6 := by
  cases h; rfl
theorem flat_at : ∀ (vs : List Value), (∀ v ∈ vs, (jcells v).length = 6) → ∀ (i j : Nat) (v : Value), vs[i]? = some v → j < 6 → (vs.flatMap jcells)[i * 6 + j]? = (jcells v)[j]?
  | [], _, i, j, v, h, _ => by simp at h
  | a :: r, hl, 0, j, v, h, hj => by
    simp at h
    subst h
    rw [List.flatMap_cons, List.getElem?_append_left (by have := hl a (by simp); omega)]
    simp
  | a :: r, hl, i + 1, j, v, h, hj => by
    have ha := hl a (by simp)
    rw [List.flatMap_cons, List.getElem?_append_right (by omega), show (i + 1) * 6 + j - (jcells a).length = i * 6 + j from by omega]
    exact flat_at r (fun v hv => hl v (by simp [hv])) i j v (by simpa using h) hj
/-- The six cells from a place on. -/
def SixAt (w : World) (b o : Nat) (v0 v1 v2 v3 v4 v5 : Value) : Prop :=
  w.cell? ⟨b, o, none⟩ = some v0 ∧ w.cell? ⟨b, o + 1, none⟩ = some v1 ∧ w.cell? ⟨b, o + 2, none⟩ = some v2 ∧ w.cell? ⟨b, o + 3, none⟩ = some v3 ∧ w.cell? ⟨b, o + 4, none⟩ = some v4 ∧ w.cell? ⟨b, o + 5, none⟩ = some v5
/-- A list of values in memory. -/
def ListIs (w : World) (ok : Nat → Prop) (v : Value) (l : List Jq.J) : Prop :=
  ∃ vs : List Value, SlIs w ok v l.length (vs.flatMap jcells) ∧ vs.length = l.length ∧ l.length * 88 ≤ 140737488355328 ∧ ∀ (i : Nat) v x, vs[i]? = some v → l[i]? = some x → IsJ w ok v x
theorem IsJ.parts {w : World} {ok : Nat → Prop} {v : Value} {x : Jq.J} (h : IsJ w ok v x) : ∃ names list, v = jv x.kind x.bool x.int (strOf x.text) names list ∧ (-9223372036854775808 ≤ x.kind ∧ x.kind ≤ 9223372036854775807) ∧ (-9223372036854775808 ≤ x.int ∧ x.int ≤ 9223372036854775807) ∧ (x.text.length ≤ 140737488355328 ∧ ∀ y ∈ x.text, y < 256) ∧
    SlIs w ok names x.names.length (tcells x.names) ∧ (∀ p ∈ x.names, p.length ≤ 140737488355328 ∧ ∀ y ∈ p, y < 256) ∧ x.names.length * 16 ≤ 140737488355328 ∧ ListIs w ok list x.list := by
  cases h with
  | mk h1 h2 h3 h4 h5 h6 h7 h8 h9 h10 => exact ⟨_, _, rfl, h1, h2, h3, h4, h5, h6, _, h7, h8, h9, h10⟩
theorem SlIs.form {w : World} {ok : Nat → Prop} {v : Value} {n : Nat} {cs : List Value} (h : SlIs w ok v n cs) : ∃ A c, v = .slice A n c := by
  obtain ⟨A, c, rfl, _⟩ := h
  exact ⟨A, c, rfl⟩
theorem ListIs.form {w : World} {ok : Nat → Prop} {v : Value} {l : List Jq.J} (h : ListIs w ok v l) : ∃ A c, v = .slice A l.length c := by
  obtain ⟨_, ⟨A, c, rfl, _⟩, _⟩ := h
  exact ⟨A, c, rfl⟩
theorem ListIs.keep {w w' : World} {ok ok' : Nat → Prop} {v : Value} {l : List Jq.J} (h : ListIs w ok v l) (hk : ∀ b, ok b → b < w.heap.size → ok' b ∧ w'.heap[b]? = w.heap[b]?) (hs : w.heap.size ≤ w'.heap.size) : ListIs w' ok' v l := by
  obtain ⟨vs, h1, h2, h3, h4⟩ := h
  exact ⟨vs, h1.keep hk hs, h2, h3, fun i v x e1 e2 => (h4 i v x e1 e2).keep hk hs⟩
/-- The element at a place: its cells, and that it is a value. -/
theorem ListIs.elem {w : World} {ok : Nat → Prop} {A : Option Addr} {n c : Nat} {l : List Jq.J} (h : ListIs w ok (.slice A n c) l) {i : Nat} (hi : i < l.length) :
    ∃ b off x A1 c1 A2 c2, A = some ⟨b, off, none⟩ ∧ ok b ∧ b < w.heap.size ∧ l[i]? = some x ∧ IsJ w ok (jv x.kind x.bool x.int (strOf x.text) (.slice A1 x.names.length c1) (.slice A2 x.list.length c2)) x ∧
      SixAt w b (off + i * 6) (.int .i64 x.kind) (.bool x.bool) (.int .i64 x.int) (.string (strOf x.text)) (.slice A1 x.names.length c1) (.slice A2 x.list.length c2) := by
  obtain ⟨vs, ⟨A', c', e, h1, h2, h3⟩, hvs, hl, hel⟩ := h
  injection e with e1 e2 e3
  subst e1 e3
  obtain ⟨b, off, rfl, hb, hlt, hc⟩ := h3 (by omega)
  have hv : vs[i]? = some (vs[i]'(by omega)) := List.getElem?_eq_getElem (by omega)
  have hx : l[i]? = some l[i] := List.getElem?_eq_getElem hi
  have hJ := hel i _ _ hv hx
  obtain ⟨A1, c1, A2, c2, ev⟩ := hJ.form
  have h6 : ∀ v ∈ vs, (jcells v).length = 6 := fun v hm => by
    obtain ⟨j, hj, rfl⟩ := List.mem_iff_getElem.1 hm
    exact jcells_len (hel j _ _ (List.getElem?_eq_getElem hj) (List.getElem?_eq_getElem (by omega)))
  have hcell : ∀ j u, j < 6 → (jcells (vs[i]'(by omega)))[j]? = some u → w.cell? ⟨b, off + (i * 6 + j), none⟩ = some u := fun j u hj hu => hc _ u (by rw [flat_at vs h6 i j _ hv hj, hu])
  rw [ev] at hJ hcell
  refine ⟨b, off, l[i], A1, c1, A2, c2, rfl, hb, hlt, hx, hJ, ?_⟩
  refine ⟨hcell 0 _ (by omega) rfl, ?_, ?_, ?_, ?_, ?_⟩
  all_goals rw [Nat.add_assoc]
  · exact hcell 1 _ (by omega) rfl
  · exact hcell 2 _ (by omega) rfl
  · exact hcell 3 _ (by omega) rfl
  · exact hcell 4 _ (by omega) rfl
  · exact hcell 5 _ (by omega) rfl
theorem drop_at {α : Type} {l : List α} {i : Nat} {x : α} (h : l[i]? = some x) : l.drop i = x :: l.drop (i + 1) := by
  obtain ⟨hi, rfl⟩ := List.getElem?_eq_some_iff.1 h
  exact List.drop_eq_getElem_cons hi

theorem tcells_length (l : List (List Nat)) : (tcells l).length = l.length := by simp [tcells]
/-- A row of the call's own is a slice whose cells are these. -/
theorem own_slIs {w : World} {base : Nat} {e : TypeId} {size : Nat} {v : Value} {n : Nat} {cs : List Value} (h : w.ownsRow base e size v n cs) : SlIs w (base ≤ ·) v n cs := by
  obtain ⟨h1, h2⟩ := h
  rcases h2 with ⟨rfl, rfl⟩ | ⟨g, cap, cur, rfl, hb, hg, hn, hc, hs, ht⟩
  · have : cs = [] := List.eq_nil_of_length_eq_zero (by simpa using h1)
    subst this
    exact SlIs.nil w _
  · unfold maxLen at hc
    refine ⟨_, cap, rfl, hn, by omega, fun _ => ⟨g, 0, rfl, hb, (Array.getElem?_eq_some_iff.1 hg).1, fun j x hj => ?_⟩⟩
    rw [Nat.zero_add, cell_of_row w g j cur _ _ hg, ← Array.getElem?_toList]
    rw [← ht, List.getElem?_take] at hj
    split at hj
    · exact hj
    · cases hj
theorem SlIs.on {w w' : World} {ok : Nat → Prop} {v : Value} {n : Nat} {cs : List Value} (h : SlIs w ok v n cs) (hb : Below w.heap.size w w') : SlIs w' ok v n cs :=
  h.keep (fun b hb' hlt => ⟨hb', hb.block b hlt⟩) hb.size
theorem IsJ.on {w w' : World} {ok : Nat → Prop} {v : Value} {x : Jq.J} (h : IsJ w ok v x) (hb : Below w.heap.size w w') : IsJ w' ok v x :=
  h.keep (fun b hb' hlt => ⟨hb', hb.block b hlt⟩) hb.size

/-- A bool that tells whether two things are equal. -/
def Tells (P : Prop) (w : World) (e : Ending) (w' : World) : Prop := Below w.heap.size w w' ∧ ((P ∧ e = .returned (.bool true)) ∨ (¬ P ∧ e = .returned (.bool false)))
theorem Tells.yes {P : Prop} {w w' : World} (h : P) (hb : Below w.heap.size w w') : Tells P w (.returned (.bool true)) w' := ⟨hb, .inl ⟨h, rfl⟩⟩
theorem Tells.no {P : Prop} {w w' : World} (h : ¬ P) (hb : Below w.heap.size w w') : Tells P w (.returned (.bool false)) w' := ⟨hb, .inr ⟨h, rfl⟩⟩
theorem below_more {w w1 w2 : World} (h1 : Below w.heap.size w w1) (h2 : Below w1.heap.size w1 w2) : Below w.heap.size w w2 := h1.trans (h2.mono h1.size)
theorem below_alloc {w w1 : World} (h : Below w.heap.size w w1) (o : Obj) : Below w.heap.size w (w1.alloc o) := h.alloc h.size o

/-- How a law ends. -/
def IsTrue (w : World) (e : Ending) (w' : World) : Prop := e = .returned (.bool true) ∧ Below w.heap.size w w'

theorem below_new (w : World) (o : Obj) : Below w.heap.size w (w.alloc o) := (Below.refl _ _).alloc (Nat.le_refl _) o

theorem one_alloc (w : World) (o : Obj) : Below w.heap.size w (w.alloc o) := (Below.refl _ _).alloc (Nat.le_refl _) o

theorem str_empty (t : List Nat) : ((strOf t).toList.isEmpty = true ∧ (strOf t).toList = [] ∧ t = []) ∨ ((strOf t).toList.isEmpty = false ∧ ¬ ((strOf t).toList = []) ∧ t ≠ []) := by
  have hs := strOf_size t
  cases t with
  | nil =>
    have h : (strOf []).toList = [] := by rw [ByteArray.toList_eq]; rfl
    exact .inl ⟨List.isEmpty_iff.2 h, h, rfl⟩
  | cons a r =>
    have h : ¬ ((strOf (a :: r)).toList = []) := fun e => by
      rw [ByteArray.toList_eq] at e
      have := congrArg List.length e
      rw [Array.length_toList] at this
      have h2 : (strOf (a :: r)).data.size = (strOf (a :: r)).size := rfl
      rw [h2, hs] at this
      simp at this
    exact .inr ⟨Bool.eq_false_iff.2 (fun e => h (List.isEmpty_iff.1 e)), h, by simp⟩
theorem below_new2 (w : World) (o o' : Obj) : Below w.heap.size w ((w.alloc o).alloc o') := ((Below.refl _ _).alloc (Nat.le_refl _) o).alloc (by simp) o'
section
variable {w w1 w2 : World} {g : Nat} {ty : TypeId} {a b c : Value}
theorem Lies.cells3 (h : Lies w g ty [a, b, c]) : (w.cell? ⟨g, 0, none⟩ = some a ∧ w.cell? ⟨g, 1, none⟩ = some b ∧ w.cell? ⟨g, 2, none⟩ = some c) ∧ (w.frozen? ⟨g, 0, none⟩ = false ∧ w.frozen? ⟨g, 1, none⟩ = false ∧ w.frozen? ⟨g, 2, none⟩ = false) :=
  ⟨⟨h.cell 0, h.cell 1, h.cell 2⟩, h.free 0, h.free 1, h.free 2⟩
end

/-- A node's cells. -/
abbrev ncell (n : Zq.Nd) : List Value := [.int .i64 n.op, .int .i64 n.int, .int .i64 n.a, .int .i64 n.b, .string (strOf n.text)]
abbrev ndv (n : Zq.Nd) : Value := .agg #[.int .i64 n.op, .int .i64 n.int, .int .i64 n.a, .int .i64 n.b, .string (strOf n.text)]
def ncells (l : List Zq.Nd) : List Value := l.flatMap ncell
theorem ncells_append (l m : List Zq.Nd) : ncells (l ++ m) = ncells l ++ ncells m := by simp [ncells]
theorem ncells_one (n : Zq.Nd) : ncells [n] = ncell n := by simp [ncells]
theorem ncells_length (l : List Zq.Nd) : (ncells l).length = l.length * 5 := by
  induction l with
  | nil => rfl
  | cons a r ih =>
    have : ncells (a :: r) = ncell a ++ ncells r := rfl
    rw [this, List.length_append, ih]
    simp; omega
theorem ncell_ones (n : Zq.Nd) : ∀ u ∈ ncell n, u.oneCell' = true := by
  intro u hu
  simp at hu
  rcases hu with rfl | rfl | rfl | rfl | rfl <;> rfl
theorem ncells_at : ∀ (ns : List Zq.Nd) (i j : Nat) (n : Zq.Nd), ns[i]? = some n → j < 5 → (ncells ns)[i * 5 + j]? = (ncell n)[j]?
  | [], i, j, n, h, _ => by simp at h
  | a :: r, 0, j, n, h, hj => by
    simp at h
    subst h
    show (ncell a ++ ncells r)[0 * 5 + j]? = _
    rw [List.getElem?_append_left (by simp; omega)]
    simp
  | a :: r, i + 1, j, n, h, hj => by
    show (ncell a ++ ncells r)[(i + 1) * 5 + j]? = _
    rw [List.getElem?_append_right (by simp; omega), show (i + 1) * 5 + j - (ncell a).length = i * 5 + j from by simp; omega]
    exact ncells_at r i j n (by simpa using h) hj

/-- A bool that tells whether two things are equal. -/
def TellsZ (P : Prop) (w : World) (e : Ending) (w' : World) : Prop := Below w.heap.size w w' ∧ ((P ∧ e = .returned (.bool true)) ∨ (¬ P ∧ e = .returned (.bool false)))
theorem TellsZ.yes {P : Prop} {w w' : World} (h : P) (hb : Below w.heap.size w w') : TellsZ P w (.returned (.bool true)) w' := ⟨hb, .inl ⟨h, rfl⟩⟩
theorem TellsZ.no {P : Prop} {w w' : World} (h : ¬ P) (hb : Below w.heap.size w w') : TellsZ P w (.returned (.bool false)) w' := ⟨hb, .inr ⟨h, rfl⟩⟩
/-- A row of nodes in memory, of any size. -/
def NsE (w : World) (ok : Nat → Prop) (v : Value) (ns : List Zq.Nd) : Prop :=
  ∃ A c, v = .slice A ns.length c ∧ ns.length ≤ c ∧ c ≤ 9223372036854775807 ∧ (∀ n ∈ ns, ∀ x ∈ n.text, x < 256) ∧ (0 < ns.length → ∃ b off, A = some ⟨b, off, none⟩ ∧ ok b ∧ b < w.heap.size ∧ ∀ j x, (ncells ns)[j]? = some x → w.cell? ⟨b, off + j, none⟩ = some x)
section
variable {w w' : World} {ok ok' : Nat → Prop} {v : Value} {ns : List Zq.Nd} {A : Option Addr} {n c : Nat}
theorem NsE.keep (h : NsE w ok v ns) (hs : w.heap.size ≤ w'.heap.size) (hk : ∀ b, ok b → b < w.heap.size → ok' b ∧ w'.heap[b]? = w.heap[b]?) : NsE w' ok' v ns := by
  obtain ⟨A, c, rfl, h1, h2, h4, h5⟩ := h
  refine ⟨A, c, rfl, h1, h2, h4, fun h => ?_⟩
  obtain ⟨b, off, rfl, k1, k2, k3⟩ := h5 h
  obtain ⟨g1, g2⟩ := hk b k1 k2
  exact ⟨b, off, rfl, g1, Nat.lt_of_lt_of_le k2 hs, fun j x e => (World.cell?_of_block (a := ⟨b, off + j, none⟩) g2).trans (k3 j x e)⟩
theorem NsE.more (h : NsE w ok v ns) (hb : Below w.heap.size w w') : NsE w' ok v ns := h.keep hb.size (fun b hb' hlt => ⟨hb', hb.block b hlt⟩)
theorem NsE.form (h : NsE w ok v ns) : ∃ A c, v = .slice A ns.length c := by
  obtain ⟨A, c, e, _⟩ := h
  exact ⟨A, c, e⟩
theorem NsE.elem (h : NsE w ok (.slice A n c) ns) {i : Nat} (hi : i < ns.length) :
    ∃ b off x, A = some ⟨b, off, none⟩ ∧ ok b ∧ b < w.heap.size ∧ ns[i]? = some x ∧ (∀ y ∈ x.text, y < 256) ∧
      w.cell? ⟨b, off + i * 5, none⟩ = some (.int .i64 x.op) ∧ w.cell? ⟨b, off + i * 5 + 1, none⟩ = some (.int .i64 x.int) ∧ w.cell? ⟨b, off + i * 5 + 2, none⟩ = some (.int .i64 x.a) ∧ w.cell? ⟨b, off + i * 5 + 3, none⟩ = some (.int .i64 x.b) ∧ w.cell? ⟨b, off + i * 5 + 4, none⟩ = some (.string (strOf x.text)) := by
  obtain ⟨A', c', e, h1, h2, h4, h5⟩ := h
  injection e with e1 e2 e3
  subst e1 e3
  obtain ⟨b, off, rfl, k1, k2, k3⟩ := h5 (by omega)
  have hx : ns[i]? = some ns[i] := List.getElem?_eq_getElem hi
  have hc : ∀ j u, j < 5 → (ncell ns[i])[j]? = some u → w.cell? ⟨b, off + (i * 5 + j), none⟩ = some u := fun j u hj hu => k3 _ u (by rw [ncells_at ns i j _ hx hj, hu])
  refine ⟨b, off, ns[i], rfl, k1, k2, hx, h4 _ (List.getElem_mem hi), hc 0 _ (by omega) rfl, ?_, ?_, ?_, ?_⟩
  all_goals rw [Nat.add_assoc]
  · exact hc 1 _ (by omega) rfl
  · exact hc 2 _ (by omega) rfl
  · exact hc 3 _ (by omega) rfl
  · exact hc 4 _ (by omega) rfl
end
theorem take_sameZ {α : Type} {l m : List α} {k : Nat} {x y : α} (h : l.take k = m.take k) (hx : l[k]? = some x) (hy : m[k]? = some y) (he : x = y) : l.take (k + 1) = m.take (k + 1) := by
  obtain ⟨h1, e1⟩ := List.getElem?_eq_some_iff.1 hx
  obtain ⟨h2, e2⟩ := List.getElem?_eq_some_iff.1 hy
  rw [List.take_succ_eq_append_getElem h1, List.take_succ_eq_append_getElem h2, h, e1, e2, he]
abbrev rcell (u : List Nat × Value × Value) : List Value := [.string (strOf u.1), u.2.1, u.2.2]
def rcells3 (us : List (List Nat × Value × Value)) : List Value := us.flatMap rcell
theorem rcells3_at : ∀ (us : List (List Nat × Value × Value)) (i j : Nat) (u : List Nat × Value × Value), us[i]? = some u → j < 3 → (rcells3 us)[i * 3 + j]? = (rcell u)[j]?
  | [], i, j, n, h, _ => by simp at h
  | a :: r, 0, j, n, h, hj => by
    simp at h
    subst h
    show (rcell a ++ rcells3 r)[0 * 3 + j]? = _
    rw [List.getElem?_append_left (by simp; omega)]
    simp
  | a :: r, i + 1, j, n, h, hj => by
    show (rcell a ++ rcells3 r)[(i + 1) * 3 + j]? = _
    rw [List.getElem?_append_right (by simp; omega), show (i + 1) * 3 + j - (rcell a).length = i * 3 + j from by simp; omega]
    exact rcells3_at r i j n (by simpa using h) hj
abbrev rlV (u : List Nat × Value × Value) : Value := .agg #[.string (strOf u.1), u.2.1, u.2.2]

/-- A rule in memory, of any size. -/
def RlE (w : World) (ok : Nat → Prop) (u : List Nat × Value × Value) (r : Zq.Rl) : Prop :=
  u.1 = r.name ∧ (∀ x ∈ r.name, x < 256) ∧ NsE w ok u.2.1 r.expr ∧ NsE w ok u.2.2 r.cond
section
variable {w w' : World} {ok ok' : Nat → Prop}
theorem RlE.keep {u : List Nat × Value × Value} {r : Zq.Rl} (h : RlE w ok u r) (hs : w.heap.size ≤ w'.heap.size) (hk : ∀ b, ok b → b < w.heap.size → ok' b ∧ w'.heap[b]? = w.heap[b]?) : RlE w' ok' u r := by
  obtain ⟨h1, h2, h4, h5⟩ := h
  exact ⟨h1, h2, h4.keep hs hk, h5.keep hs hk⟩
theorem RlE.more {u : List Nat × Value × Value} {r : Zq.Rl} (h : RlE w ok u r) (hb : Below w.heap.size w w') : RlE w' ok u r := h.keep hb.size (fun b hb' hlt => ⟨hb', hb.block b hlt⟩)
theorem rl_ext {r q : Zq.Rl} (h1 : r.name = q.name) (h2 : r.expr = q.expr) (h3 : r.cond = q.cond) : r = q := by
  cases r
  cases q
  simp only at h1 h2 h3
  subst h1 h2 h3
  rfl
end

/-- Rules in memory, of any size. -/
def RsE (w : World) (ok : Nat → Prop) (v : Value) (rs : List Zq.Rl) : Prop :=
  ∃ A c, v = .slice A rs.length c ∧ rs.length ≤ c ∧ c ≤ 9223372036854775807 ∧ ∃ us : List (List Nat × Value × Value), us.length = rs.length ∧
    (∀ (i : Nat) u r, us[i]? = some u → rs[i]? = some r → RlE w ok u r) ∧
    (0 < rs.length → ∃ b off, A = some ⟨b, off, none⟩ ∧ ok b ∧ b < w.heap.size ∧ ∀ j x, (rcells3 us)[j]? = some x → w.cell? ⟨b, off + j, none⟩ = some x)
section
variable {w w' : World} {ok ok' : Nat → Prop} {v : Value} {rs : List Zq.Rl} {A : Option Addr} {n c : Nat}
theorem RsE.keep (h : RsE w ok v rs) (hs : w.heap.size ≤ w'.heap.size) (hk : ∀ b, ok b → b < w.heap.size → ok' b ∧ w'.heap[b]? = w.heap[b]?) : RsE w' ok' v rs := by
  obtain ⟨A, c, rfl, h1, h2, us, h4, h5, h6⟩ := h
  refine ⟨A, c, rfl, h1, h2, us, h4, fun i u r e1 e2 => (h5 i u r e1 e2).keep hs hk, fun h => ?_⟩
  obtain ⟨b, off, rfl, k1, k2, k3⟩ := h6 h
  obtain ⟨g1, g2⟩ := hk b k1 k2
  exact ⟨b, off, rfl, g1, Nat.lt_of_lt_of_le k2 hs, fun j x e => (World.cell?_of_block (a := ⟨b, off + j, none⟩) g2).trans (k3 j x e)⟩
theorem RsE.more (h : RsE w ok v rs) (hb : Below w.heap.size w w') : RsE w' ok v rs := h.keep hb.size (fun b hb' hlt => ⟨hb', hb.block b hlt⟩)
theorem RsE.form (h : RsE w ok v rs) : ∃ A c, v = .slice A rs.length c := by
  obtain ⟨A, c, e, _⟩ := h
  exact ⟨A, c, e⟩
theorem RsE.elem (h : RsE w ok (.slice A n c) rs) {i : Nat} (hi : i < rs.length) :
    ∃ b off r A1 c1 A2 c2, A = some ⟨b, off, none⟩ ∧ ok b ∧ b < w.heap.size ∧ rs[i]? = some r ∧ RlE w ok (r.name, .slice A1 r.expr.length c1, .slice A2 r.cond.length c2) r ∧
      w.cell? ⟨b, off + i * 3, none⟩ = some (.string (strOf r.name)) ∧ w.cell? ⟨b, off + i * 3 + 1, none⟩ = some (.slice A1 r.expr.length c1) ∧ w.cell? ⟨b, off + i * 3 + 2, none⟩ = some (.slice A2 r.cond.length c2) := by
  obtain ⟨A', c', e, h1, h2, us, h4, h5, h6⟩ := h
  injection e with e1 e2 e3
  subst e1 e3
  obtain ⟨b, off, rfl, k1, k2, k3⟩ := h6 (by omega)
  have hx : rs[i]? = some rs[i] := List.getElem?_eq_getElem hi
  have hu : us[i]? = some (us[i]'(by omega)) := List.getElem?_eq_getElem (by omega)
  have hR := h5 i _ _ hu hx
  generalize us[i]'(by omega) = u at hu hR
  generalize rs[i] = r at hx hR
  obtain ⟨t, ev, wv⟩ := u
  obtain ⟨g1, g2, g4, g5⟩ := hR
  simp only at g1 g4 g5
  subst g1
  obtain ⟨A1, c1, rfl⟩ := g4.form
  obtain ⟨A2, c2, rfl⟩ := g5.form
  have hc : ∀ j y, j < 3 → (rcell (r.name, .slice A1 r.expr.length c1, .slice A2 r.cond.length c2))[j]? = some y → w.cell? ⟨b, off + (i * 3 + j), none⟩ = some y := fun j y hj hy => k3 _ y (by rw [rcells3_at us i j _ hu hj, hy])
  refine ⟨b, off, r, A1, c1, A2, c2, rfl, k1, k2, hx, ⟨rfl, g2, g4, g5⟩, hc 0 _ (by omega) rfl, ?_, ?_⟩
  all_goals rw [Nat.add_assoc]
  · exact hc 1 _ (by omega) rfl
  · exact hc 2 _ (by omega) rfl
theorem below_two (w : World) (o o' : Obj) : Below w.heap.size w ((w.alloc o).alloc o') := ((Below.refl _ _).alloc (Nat.le_refl _) o).alloc (by simp) o'
theorem below_onZ {w w1 w2 : World} (h1 : Below w.heap.size w w1) (h2 : Below w1.heap.size w1 w2) : Below w.heap.size w w2 := h1.trans (h2.mono h1.size)
end
end Go.Proofs.YtgoecghakiihpaaDoor
