/-
  Fields and types in memory.
-/
import Derived.Test.YtgoecghakiihpaaDoorKBase
import Derived.Test.YtgoecghakiihpaaDoorKM
namespace Go.Proofs.YtgoecghakiihpaaDoor
open Go.RowKit

abbrev fcell (f : Tq.Fd) : List Value := [.string (strOf f.name), .int .i64 f.type]
abbrev fdv (f : Tq.Fd) : Value := .agg #[.string (strOf f.name), .int .i64 f.type]
def fcells (l : List Tq.Fd) : List Value := l.flatMap fcell
theorem fcells_append (l m : List Tq.Fd) : fcells (l ++ m) = fcells l ++ fcells m := by simp [fcells]
theorem fcells_length (l : List Tq.Fd) : (fcells l).length = l.length * 2 := by
  induction l with
  | nil => rfl
  | cons a r ih =>
    have : fcells (a :: r) = fcell a ++ fcells r := rfl
    rw [this, List.length_append, ih]
    simp; omega
theorem fcells_ones (l : List Tq.Fd) : ∀ u ∈ fcells l, u.oneCell' = true := by
  intro u hu
  obtain ⟨f, _, hf⟩ := List.mem_flatMap.1 hu
  simp at hf
  rcases hf with rfl | rfl <;> rfl
theorem fcells_at : ∀ (fs : List Tq.Fd) (i j : Nat) (f : Tq.Fd), fs[i]? = some f → j < 2 → (fcells fs)[i * 2 + j]? = (fcell f)[j]?
  | [], i, j, n, h, _ => by simp at h
  | a :: r, 0, j, n, h, hj => by
    simp at h
    subst h
    show (fcell a ++ fcells r)[0 * 2 + j]? = _
    rw [List.getElem?_append_left (by simp; omega)]
    simp
  | a :: r, i + 1, j, n, h, hj => by
    show (fcell a ++ fcells r)[(i + 1) * 2 + j]? = _
    rw [List.getElem?_append_right (by simp; omega), show (i + 1) * 2 + j - (fcell a).length = i * 2 + j from by simp; omega]
    exact fcells_at r i j n (by simpa using h) hj
/-- A row of fields in memory. -/
def FsE (w : World) (ok : Nat → Prop) (v : Value) (fs : List Tq.Fd) : Prop :=
  ∃ A c, v = .slice A fs.length c ∧ fs.length ≤ c ∧ c ≤ 9223372036854775807 ∧ (∀ f ∈ fs, ∀ x ∈ f.name, x < 256) ∧ (0 < fs.length → ∃ b off, A = some ⟨b, off, none⟩ ∧ ok b ∧ b < w.heap.size ∧ ∀ j x, (fcells fs)[j]? = some x → w.cell? ⟨b, off + j, none⟩ = some x)
section
variable {w w' : World} {ok ok' : Nat → Prop} {v : Value} {fs : List Tq.Fd} {A : Option Addr} {n c : Nat}
theorem FsE.keep (h : FsE w ok v fs) (hs : w.heap.size ≤ w'.heap.size) (hk : ∀ b, ok b → b < w.heap.size → ok' b ∧ w'.heap[b]? = w.heap[b]?) : FsE w' ok' v fs := by
  obtain ⟨A, c, rfl, h1, h2, h4, h5⟩ := h
  refine ⟨A, c, rfl, h1, h2, h4, fun h => ?_⟩
  obtain ⟨b, off, rfl, k1, k2, k3⟩ := h5 h
  obtain ⟨g1, g2⟩ := hk b k1 k2
  exact ⟨b, off, rfl, g1, Nat.lt_of_lt_of_le k2 hs, fun j x e => (World.cell?_of_block (a := ⟨b, off + j, none⟩) g2).trans (k3 j x e)⟩
theorem FsE.more (h : FsE w ok v fs) (hb : Below w.heap.size w w') : FsE w' ok v fs := h.keep hb.size (fun b hb' hlt => ⟨hb', hb.block b hlt⟩)
theorem FsE.form (h : FsE w ok v fs) : ∃ A c, v = .slice A fs.length c := by
  obtain ⟨A, c, e, _⟩ := h
  exact ⟨A, c, e⟩
theorem FsE.len (h : FsE w ok v fs) : fs.length ≤ 9223372036854775807 := by
  obtain ⟨A, c, e, h1, h2, _⟩ := h
  omega
theorem FsE.elem (h : FsE w ok (.slice A n c) fs) {i : Nat} (hi : i < fs.length) :
    ∃ b off x, A = some ⟨b, off, none⟩ ∧ ok b ∧ b < w.heap.size ∧ fs[i]? = some x ∧ (∀ y ∈ x.name, y < 256) ∧
      w.cell? ⟨b, off + i * 2, none⟩ = some (.string (strOf x.name)) ∧ w.cell? ⟨b, off + i * 2 + 1, none⟩ = some (.int .i64 x.type) := by
  obtain ⟨A', c', e, h1, h2, h4, h5⟩ := h
  injection e with e1 e2 e3
  subst e1 e3
  obtain ⟨b, off, rfl, k1, k2, k3⟩ := h5 (by omega)
  have hx : fs[i]? = some fs[i] := List.getElem?_eq_getElem hi
  have hc : ∀ j u, j < 2 → (fcell fs[i])[j]? = some u → w.cell? ⟨b, off + (i * 2 + j), none⟩ = some u := fun j u hj hu => k3 _ u (by rw [fcells_at fs i j _ hx hj, hu])
  refine ⟨b, off, fs[i], rfl, k1, k2, hx, h4 _ (List.getElem_mem hi), hc 0 _ (by omega) rfl, ?_⟩
  rw [Nat.add_assoc]
  exact hc 1 _ (by omega) rfl
end
/-- None of the first k has that name. -/
theorem Tq.find_past {fs : List Tq.Fd} {s : List Nat} (h : ∀ f ∈ fs, f.name ≠ s) : Tq.find fs s = none := by
  induction fs with
  | nil => rfl
  | cons f r ih =>
    have := h f (by simp)
    simp only [Tq.find, if_neg this]
    exact ih fun x hx => h x (by simp [hx])
theorem Tq.find_here {fs : List Tq.Fd} {s : List Nat} {k : Nat} {f : Tq.Fd} (h : ∀ (j : Nat) (g : Tq.Fd), j < k → fs[j]? = some g → g.name ≠ s) (hf : fs[k]? = some f) (e : f.name = s) : Tq.find fs s = some f.type := by
  induction fs generalizing k with
  | nil => simp at hf
  | cons g r ih =>
    cases k with
    | zero =>
      simp at hf
      subst hf
      simp [Tq.find, e]
    | succ k =>
      have h0 := h 0 g (by omega) rfl
      simp only [Tq.find, if_neg h0]
      exact ih (k := k) (fun j x hj hx => h (j + 1) x (by omega) (by simpa using hx)) (by simpa using hf)
theorem Tq.find_nowhere {fs : List Tq.Fd} {s : List Nat} (h : ∀ (j : Nat) (g : Tq.Fd), fs[j]? = some g → g.name ≠ s) : Tq.find fs s = none :=
  Tq.find_past fun f hf => by
    obtain ⟨j, hj⟩ := List.getElem?_of_mem hf
    exact h j f hj
/-- Where a name is found: none of those ahead has it. -/
def NoneHas (fs : List Tq.Fd) (s : List Nat) (k : Nat) : Prop := ∀ (j : Nat) (g : Tq.Fd), j < k → fs[j]? = some g → g.name ≠ s
theorem NoneHas.zero (fs : List Tq.Fd) (s : List Nat) : NoneHas fs s 0 := fun _ _ h => absurd h (Nat.not_lt_zero _)
theorem NoneHas.succ {fs : List Tq.Fd} {s : List Nat} {k : Nat} {f : Tq.Fd} (h : NoneHas fs s k) (hf : fs[k]? = some f) (hne : f.name ≠ s) : NoneHas fs s (k + 1) := fun j g hj hg => by
  rcases Nat.lt_or_eq_of_le (Nat.le_of_lt_succ hj) with h' | h'
  · exact h j g h' hg
  · subst h'
    rw [hf] at hg
    injection hg with hg
    rw [← hg]; exact hne
theorem NoneHas.all {fs : List Tq.Fd} {s : List Nat} {n : Nat} (hn : fs.length = n) (h : NoneHas fs s n) : Tq.find fs s = none :=
  Tq.find_nowhere fun j g hg => h j g (by have := (List.getElem?_eq_some_iff.1 hg).1; omega) hg
/-- Types as cells. -/
def ints (ts : List Int) : List Value := ts.map fun t => .int .i64 t
theorem ints_length (ts : List Int) : (ints ts).length = ts.length := by simp [ints]
theorem ints_snoc (ts : List Int) (t : Int) : ints (ts ++ [t]) = ints ts ++ [.int .i64 t] := by simp [ints]
theorem ints_at {ts : List Int} {k : Nat} (h : k < ts.length) : (ints ts)[k]? = some (.int .i64 (ts.getD k 0)) := by
  simp [ints, List.getElem?_eq_getElem h, List.getD_eq_getElem?_getD]
end Go.Proofs.YtgoecghakiihpaaDoor
