/-
  G21: KBase, side by side.
-/
import Derived.Test.YthhlmalpelgpeaaGreatDoorQM
import Derived.Test.YthhlmalpelgpeaaGreatDoorG01
import Derived.WalkMore
import Derived.Outline
import Derived.OwnWalk
import Derived.Test.YthhlmalpelgpeaaGreatDoorG02
import Derived.Test.YthhlmalpelgpeaaGreatDoorG09
import Derived.Test.YthhlmalpelgpeaaGreatDoorG13
import Derived.Test.YthhlmalpelgpeaaGreatDoorG15
import Derived.Test.YthhlmalpelgpeaaGreatDoorG08
import Derived.Test.YthhlmalpelgpeaaGreatDoorG14

/-
  What the walks of stage 12 want: values, nodes and rules in memory.
-/
namespace Go.Proofs.YthhlmalpelgpeaaGreatDoor
open Go.RowKit


/-- A value's six cells. -/
abbrev jv (k : Int) (b : Bool) (n : Int) (t : ByteArray) (names list : Value) : Value := .agg #[.int .i64 k, .bool b, .int .i64 n, .string t, names, list]
def jcells : Value → List Value
  | .agg cs => cs.toList
  | v => [v]
/-- A slice of n elements whose cells are these, in blocks of which ok speaks. -/
def SlIs (w : World) (ok : Nat → Prop) (v : Value) (n : Nat) (cs : List Value) : Prop :=
  ∃ A c, v = .slice A n c ∧ n ≤ c ∧ c ≤ 9223372036854775807 ∧ (0 < n → ∃ b off, A = some ⟨b, off, none⟩ ∧ ok b ∧ b < w.heap.size ∧ ∀ j x, cs[j]? = some x → w.cell? ⟨b, off + j, none⟩ = some x)
def tcells (l : List (List Nat)) : List Value := l.map fun p => .string (strOf p)
/-- What a value reads as, all its blocks such of which ok speaks. -/
inductive IsJ (w : World) (ok : Nat → Prop) : Value → Jq.J → Prop where
  | mk {k : Int} {b : Bool} {n : Int} {t : List Nat} {ns : List (List Nat)} {l : List Jq.J} {names list : Value} {vs : List Value}
      (hk : -9223372036854775808 ≤ k ∧ k ≤ 9223372036854775807) (hn : -9223372036854775808 ≤ n ∧ n ≤ 9223372036854775807)
      (ht : t.length ≤ 140737488355328 ∧ ∀ x ∈ t, x < 256)
      (hns : SlIs w ok names ns.length (tcells ns)) (hnt : ∀ p ∈ ns, p.length ≤ 140737488355328 ∧ ∀ x ∈ p, x < 256) (hnl : ns.length * 16 ≤ 140737488355328)
      (hl : SlIs w ok list l.length (vs.flatMap jcells)) (hvl : vs.length = l.length) (hll : l.length * 88 ≤ 140737488355328)
      (he : ∀ (i : Nat) v x, vs[i]? = some v → l[i]? = some x → IsJ w ok v x) : IsJ w ok (jv k b n (strOf t) names list) (.mk k b n t ns l)
theorem SlIs.nil (w : World) (ok : Nat → Prop) : SlIs w ok (.slice none 0 0) 0 [] := ⟨none, 0, rfl, Nat.le_refl _, by omega, fun h => absurd h (Nat.lt_irrefl _)⟩
theorem SlIs.keep {w w' : World} {ok ok' : Nat → Prop} {v : Value} {n : Nat} {cs : List Value} (h : SlIs w ok v n cs) (hk : ∀ b, ok b → b < w.heap.size → ok' b ∧ w'.heap[b]? = w.heap[b]?) (hs : w.heap.size ≤ w'.heap.size) : SlIs w' ok' v n cs := by
  obtain ⟨A, c, rfl, h1, h2, h3⟩ := h
  refine ⟨A, c, rfl, h1, h2, fun hn => ?_⟩
  obtain ⟨b, off, rfl, h4, h5, h6⟩ := h3 hn
  obtain ⟨k1, k2⟩ := hk b h4 h5
  exact ⟨b, off, rfl, k1, Nat.lt_of_lt_of_le h5 hs, fun j x hj => (World.cell?_of_block (a := ⟨b, off + j, none⟩) k2).trans (h6 j x hj)⟩
theorem IsJ.keep {w w' : World} {ok ok' : Nat → Prop} (hk : ∀ b, ok b → b < w.heap.size → ok' b ∧ w'.heap[b]? = w.heap[b]?) (hs : w.heap.size ≤ w'.heap.size) {v : Value} {x : Jq.J} (h : IsJ w ok v x) : IsJ w' ok' v x := by
  induction h with
  | mk h1 h2 h3 h4 h5 h6 h7 h8 h9 _ ih => exact .mk h1 h2 h3 (h4.keep hk hs) h5 h6 (h7.keep hk hs) h8 h9 ih
theorem IsJ.form {w : World} {ok : Nat → Prop} {v : Value} {x : Jq.J} (h : IsJ w ok v x) : ∃ A1 c1 A2 c2, v = jv x.kind x.bool x.int (strOf x.text) (.slice A1 x.names.length c1) (.slice A2 x.list.length c2) := by
  cases h with
  | mk h1 h2 h3 h4 h5 h6 h7 h8 h9 h10 =>
    obtain ⟨A1, c1, rfl, _⟩ := h4
    obtain ⟨A2, c2, rfl, _⟩ := h7
    exact ⟨A1, c1, A2, c2, rfl⟩

theorem jcells_len {w : World} {ok : Nat → Prop} {v : Value} {x : Jq.J} (h : IsJ w ok v x) : (jcells v).length = 6 := by
  cases h; rfl
theorem flat_at : ∀ (vs : List Value), (∀ v ∈ vs, (jcells v).length = 6) → ∀ (i j : Nat) (v : Value), vs[i]? = some v → j < 6 → (vs.flatMap jcells)[i * 6 + j]? = (jcells v)[j]?
  | [], _, i, j, v, h, _ => by simp at h
  | a :: r, hl, 0, j, v, h, hj => by
    simp at h
    subst h
    rw [List.flatMap_cons, List.getElem?_append_left (by have := hl a (by simp); omega)]
    simp
  | a :: r, hl, i + 1, j, v, h, hj => by
    have ha := hl a (by simp)
    rw [List.flatMap_cons, List.getElem?_append_right (by omega), show (i + 1) * 6 + j - (jcells a).length = i * 6 + j from by omega]
    exact flat_at r (fun v hv => hl v (by simp [hv])) i j v (by simpa using h) hj
/-- The six cells from a place on. -/
def SixAt (w : World) (b o : Nat) (v0 v1 v2 v3 v4 v5 : Value) : Prop :=
  w.cell? ⟨b, o, none⟩ = some v0 ∧ w.cell? ⟨b, o + 1, none⟩ = some v1 ∧ w.cell? ⟨b, o + 2, none⟩ = some v2 ∧ w.cell? ⟨b, o + 3, none⟩ = some v3 ∧ w.cell? ⟨b, o + 4, none⟩ = some v4 ∧ w.cell? ⟨b, o + 5, none⟩ = some v5
/-- A list of values in memory. -/
def ListIs (w : World) (ok : Nat → Prop) (v : Value) (l : List Jq.J) : Prop :=
  ∃ vs : List Value, SlIs w ok v l.length (vs.flatMap jcells) ∧ vs.length = l.length ∧ l.length * 88 ≤ 140737488355328 ∧ ∀ (i : Nat) v x, vs[i]? = some v → l[i]? = some x → IsJ w ok v x
theorem IsJ.parts {w : World} {ok : Nat → Prop} {v : Value} {x : Jq.J} (h : IsJ w ok v x) : ∃ names list, v = jv x.kind x.bool x.int (strOf x.text) names list ∧ (-9223372036854775808 ≤ x.kind ∧ x.kind ≤ 9223372036854775807) ∧ (-9223372036854775808 ≤ x.int ∧ x.int ≤ 9223372036854775807) ∧ (x.text.length ≤ 140737488355328 ∧ ∀ y ∈ x.text, y < 256) ∧
    SlIs w ok names x.names.length (tcells x.names) ∧ (∀ p ∈ x.names, p.length ≤ 140737488355328 ∧ ∀ y ∈ p, y < 256) ∧ x.names.length * 16 ≤ 140737488355328 ∧ ListIs w ok list x.list := by
  cases h with
  | mk h1 h2 h3 h4 h5 h6 h7 h8 h9 h10 => exact ⟨_, _, rfl, h1, h2, h3, h4, h5, h6, _, h7, h8, h9, h10⟩
theorem SlIs.form {w : World} {ok : Nat → Prop} {v : Value} {n : Nat} {cs : List Value} (h : SlIs w ok v n cs) : ∃ A c, v = .slice A n c := by
  obtain ⟨A, c, rfl, _⟩ := h
  exact ⟨A, c, rfl⟩
theorem ListIs.form {w : World} {ok : Nat → Prop} {v : Value} {l : List Jq.J} (h : ListIs w ok v l) : ∃ A c, v = .slice A l.length c := by
  obtain ⟨_, ⟨A, c, rfl, _⟩, _⟩ := h
  exact ⟨A, c, rfl⟩
theorem ListIs.keep {w w' : World} {ok ok' : Nat → Prop} {v : Value} {l : List Jq.J} (h : ListIs w ok v l) (hk : ∀ b, ok b → b < w.heap.size → ok' b ∧ w'.heap[b]? = w.heap[b]?) (hs : w.heap.size ≤ w'.heap.size) : ListIs w' ok' v l := by
  obtain ⟨vs, h1, h2, h3, h4⟩ := h
  exact ⟨vs, h1.keep hk hs, h2, h3, fun i v x e1 e2 => (h4 i v x e1 e2).keep hk hs⟩
/-- The element at a place: its cells, and that it is a value. -/
theorem ListIs.elem {w : World} {ok : Nat → Prop} {A : Option Addr} {n c : Nat} {l : List Jq.J} (h : ListIs w ok (.slice A n c) l) {i : Nat} (hi : i < l.length) :
    ∃ b off x A1 c1 A2 c2, A = some ⟨b, off, none⟩ ∧ ok b ∧ b < w.heap.size ∧ l[i]? = some x ∧ IsJ w ok (jv x.kind x.bool x.int (strOf x.text) (.slice A1 x.names.length c1) (.slice A2 x.list.length c2)) x ∧
      SixAt w b (off + i * 6) (.int .i64 x.kind) (.bool x.bool) (.int .i64 x.int) (.string (strOf x.text)) (.slice A1 x.names.length c1) (.slice A2 x.list.length c2) := by
  obtain ⟨vs, ⟨A', c', e, h1, h2, h3⟩, hvs, hl, hel⟩ := h
  injection e with e1 e2 e3
  subst e1 e3
  obtain ⟨b, off, rfl, hb, hlt, hc⟩ := h3 (by omega)
  have hv : vs[i]? = some (vs[i]'(by omega)) := List.getElem?_eq_getElem (by omega)
  have hx : l[i]? = some l[i] := List.getElem?_eq_getElem hi
  have hJ := hel i _ _ hv hx
  obtain ⟨A1, c1, A2, c2, ev⟩ := hJ.form
  have h6 : ∀ v ∈ vs, (jcells v).length = 6 := fun v hm => by
    obtain ⟨j, hj, rfl⟩ := List.mem_iff_getElem.1 hm
    exact jcells_len (hel j _ _ (List.getElem?_eq_getElem hj) (List.getElem?_eq_getElem (by omega)))
  have hcell : ∀ j u, j < 6 → (jcells (vs[i]'(by omega)))[j]? = some u → w.cell? ⟨b, off + (i * 6 + j), none⟩ = some u := fun j u hj hu => hc _ u (by rw [flat_at vs h6 i j _ hv hj, hu])
  rw [ev] at hJ hcell
  refine ⟨b, off, l[i], A1, c1, A2, c2, rfl, hb, hlt, hx, hJ, ?_⟩
  refine ⟨hcell 0 _ (by omega) rfl, ?_, ?_, ?_, ?_, ?_⟩
  all_goals rw [Nat.add_assoc]
  · exact hcell 1 _ (by omega) rfl
  · exact hcell 2 _ (by omega) rfl
  · exact hcell 3 _ (by omega) rfl
  · exact hcell 4 _ (by omega) rfl
  · exact hcell 5 _ (by omega) rfl
theorem drop_at {α : Type} {l : List α} {i : Nat} {x : α} (h : l[i]? = some x) : l.drop i = x :: l.drop (i + 1) := by
  obtain ⟨hi, rfl⟩ := List.getElem?_eq_some_iff.1 h
  exact List.drop_eq_getElem_cons hi

theorem tcells_length (l : List (List Nat)) : (tcells l).length = l.length := by simp [tcells]
/-- A row of the call's own is a slice whose cells are these. -/
theorem own_slIs {w : World} {base : Nat} {e : TypeId} {size : Nat} {v : Value} {n : Nat} {cs : List Value} (h : w.ownsRow base e size v n cs) : SlIs w (base ≤ ·) v n cs := by
  obtain ⟨h1, h2⟩ := h
  rcases h2 with ⟨rfl, rfl⟩ | ⟨g, cap, cur, rfl, hb, hg, hn, hc, hs, ht⟩
  · have : cs = [] := List.eq_nil_of_length_eq_zero (by simpa using h1)
    subst this
    exact SlIs.nil w _
  · unfold maxLen at hc
    refine ⟨_, cap, rfl, hn, by omega, fun _ => ⟨g, 0, rfl, hb, (Array.getElem?_eq_some_iff.1 hg).1, fun j x hj => ?_⟩⟩
    rw [Nat.zero_add, cell_of_row w g j cur _ _ hg, ← Array.getElem?_toList]
    rw [← ht, List.getElem?_take] at hj
    split at hj
    · exact hj
    · cases hj
theorem SlIs.on {w w' : World} {ok : Nat → Prop} {v : Value} {n : Nat} {cs : List Value} (h : SlIs w ok v n cs) (hb : Below w.heap.size w w') : SlIs w' ok v n cs :=
  h.keep (fun b hb' hlt => ⟨hb', hb.block b hlt⟩) hb.size
theorem IsJ.on {w w' : World} {ok : Nat → Prop} {v : Value} {x : Jq.J} (h : IsJ w ok v x) (hb : Below w.heap.size w w') : IsJ w' ok v x :=
  h.keep (fun b hb' hlt => ⟨hb', hb.block b hlt⟩) hb.size

/-- A bool that tells whether two things are equal. -/
def Tells (P : Prop) (w : World) (e : Ending) (w' : World) : Prop := Below w.heap.size w w' ∧ ((P ∧ e = .returned (.bool true)) ∨ (¬ P ∧ e = .returned (.bool false)))
theorem Tells.yes {P : Prop} {w w' : World} (h : P) (hb : Below w.heap.size w w') : Tells P w (.returned (.bool true)) w' := ⟨hb, .inl ⟨h, rfl⟩⟩
theorem Tells.no {P : Prop} {w w' : World} (h : ¬ P) (hb : Below w.heap.size w w') : Tells P w (.returned (.bool false)) w' := ⟨hb, .inr ⟨h, rfl⟩⟩
theorem below_more {w w1 w2 : World} (h1 : Below w.heap.size w w1) (h2 : Below w1.heap.size w1 w2) : Below w.heap.size w w2 := h1.trans (h2.mono h1.size)
theorem below_alloc {w w1 : World} (h : Below w.heap.size w w1) (o : Obj) : Below w.heap.size w (w1.alloc o) := h.alloc h.size o

/-- How a law ends. -/
def IsTrue (w : World) (e : Ending) (w' : World) : Prop := e = .returned (.bool true) ∧ Below w.heap.size w w'

theorem below_new (w : World) (o : Obj) : Below w.heap.size w (w.alloc o) := (Below.refl _ _).alloc (Nat.le_refl _) o

theorem one_alloc (w : World) (o : Obj) : Below w.heap.size w (w.alloc o) := (Below.refl _ _).alloc (Nat.le_refl _) o

theorem str_empty (t : List Nat) : ((strOf t).toList.isEmpty = true ∧ (strOf t).toList = [] ∧ t = []) ∨ ((strOf t).toList.isEmpty = false ∧ ¬ ((strOf t).toList = []) ∧ t ≠ []) := by
  have hs := strOf_size t
  cases t with
  | nil =>
    have h : (strOf []).toList = [] := by rw [ByteArray.toList_eq]; rfl
    exact .inl ⟨List.isEmpty_iff.2 h, h, rfl⟩
  | cons a r =>
    have h : ¬ ((strOf (a :: r)).toList = []) := fun e => by
      rw [ByteArray.toList_eq] at e
      have := congrArg List.length e
      rw [Array.length_toList] at this
      have h2 : (strOf (a :: r)).data.size = (strOf (a :: r)).size := rfl
      rw [h2, hs] at this
      simp at this
    exact .inr ⟨Bool.eq_false_iff.2 (fun e => h (List.isEmpty_iff.1 e)), h, by simp⟩
section
variable {w w1 w2 : World} {g : Nat} {ty : TypeId} {a b c : Value}
end
section
variable {w w' : World} {ok ok' : Nat → Prop} {v : Value} {ns : List Zq.Nd} {A : Option Addr} {n c : Nat}
end
section
variable {w w' : World} {ok ok' : Nat → Prop}
end
section
variable {w w' : World} {ok ok' : Nat → Prop} {v : Value} {rs : List Zq.Rl} {A : Option Addr} {n c : Nat}
end
end Go.Proofs.YthhlmalpelgpeaaGreatDoor
