/-
  M01: KM KVal KFld KMade KRes, side by side.
-/
import Derived.Test.YtnbaajdcakjlmaaDoorG01
import Derived.Test.YtnbaajdcakjlmaaDoorG21

/-
  Types, plain: the type of a node behind others, of an expression, and whether rules make sense.
-/
namespace Go.Proofs.YtnbaajdcakjlmaaDoor.Tq

/-- A field that is declared. -/
structure Fd where
  name : List Nat
  type : Int
  deriving DecidableEq
/-- The type of the first field of that name. -/
def find : List Fd → List Nat → Option Int
  | [], _ => none
  | f :: r, s => if f.name = s then some f.type else find r s
/-- An operand's type; 0: it has none. -/
def opnd (ts : List Int) (k : Int) : Int := if 0 ≤ k ∧ k < (ts.length : Int) then ts.getD k.toNat 0 else 0
def made (op a b : Int) : Int :=
  if op = 5 then (if a = 1 ∧ b = 1 then 1 else 0)
  else if op = 6 ∨ op = 8 ∨ op = 9 then (if a = 1 then 1 else 0)
  else if op = 7 then (if a = 4 then 1 else 0)
  else if op = 10 then (if a = b ∧ a ≠ 0 ∧ a ≠ 4 then 3 else 0)
  else if op = 11 then (if a = 2 ∧ b = 2 then 3 else 0)
  else if op = 12 then (if a = 1 ∧ b = 4 then 3 else 0)
  else if op = 17 then (if a = 1 ∧ b = 1 then 3 else 0)
  else if op = 13 then (if a = 3 then 3 else 0)
  else if op = 14 ∨ op = 15 then (if a = 3 ∧ b = 3 then 3 else 0)
  else if op = 16 then (if a = b then a else 0)
  else 0
def plainT (op a b : Int) : Int := if op = 1 then 1 else if op = 2 then 2 else made op a b
def claimT (fs : List Fd) (s : List Nat) : Int × Int :=
  match find fs s with
  | none => (0, 120)
  | some t => if 1 ≤ t ∧ t ≤ 4 then (t, 0) else (0, 121)
def hasT (fs : List Fd) (s : List Nat) : Int × Int :=
  match find fs s with
  | none => (0, 120)
  | some _ => (3, 0)
/-- A node's type, and its error. -/
def nodeT (fs : List Fd) (ts : List Int) (n : Zq.Nd) : Int × Int :=
  if n.op = 3 then claimT fs n.text
  else if n.op = 4 then hasT fs n.text
  else if plainT n.op (opnd ts n.a) (opnd ts n.b) = 0 then (0, 121) else (plainT n.op (opnd ts n.a) (opnd ts n.b), 0)
def lastT (ts : List Int) : Int := ts.getD (ts.length - 1) 0
def go (fs : List Fd) : List Int → List Zq.Nd → Int × Int
  | ts, [] => (lastT ts, 0)
  | ts, n :: r => if (nodeT fs ts n).2 = 0 then go fs (ts ++ [(nodeT fs ts n).1]) r else (0, (nodeT fs ts n).2)
def of (fs : List Fd) (ns : List Zq.Nd) : Int × Int := if ns = [] then (0, 121) else go fs [] ns
def cond (fs : List Fd) (ns : List Zq.Nd) : Int := if (of fs ns).2 = 0 ∧ (of fs ns).1 ≠ 3 then 121 else (of fs ns).2

/-- Types that there are. -/
def Ty (t : Int) : Prop := 1 ≤ t ∧ t ≤ 4
def Tys (ts : List Int) : Prop := ∀ t ∈ ts, Ty t
theorem Tys.nil : Tys [] := fun _ h => nomatch h
theorem Tys.snoc {ts : List Int} {t : Int} (h : Tys ts) (ht : Ty t) : Tys (ts ++ [t]) := fun x hx => by
  rcases List.mem_append.1 hx with h' | h'
  · exact h x h'
  · rw [List.mem_singleton.1 h']; exact ht
theorem opnd_in {ts : List Int} (h : Tys ts) (k : Int) : 0 ≤ opnd ts k ∧ opnd ts k ≤ 4 := by
  unfold opnd
  split
  · rename_i hk
    have hlt : k.toNat < ts.length := by omega
    rw [List.getD_eq_getElem?_getD, List.getElem?_eq_getElem hlt]
    have := h _ (List.getElem_mem hlt)
    unfold Ty at this
    simp only [Option.getD_some]
    omega
  · omega
theorem opnd_pos {ts : List Int} (h : Tys ts) {k : Int} (hk : 0 ≤ k ∧ k < (ts.length : Int)) : opnd ts k = ts.getD k.toNat 0 ∧ opnd ts k ≠ 0 := by
  have e : opnd ts k = ts.getD k.toNat 0 := by unfold opnd; rw [if_pos hk]
  refine ⟨e, ?_⟩
  have hlt : k.toNat < ts.length := by omega
  rw [e, List.getD_eq_getElem?_getD, List.getElem?_eq_getElem hlt]
  have := h _ (List.getElem_mem hlt)
  unfold Ty at this
  simp only [Option.getD_some]
  omega
theorem opnd_none {ts : List Int} {k : Int} (hk : ¬ (0 ≤ k ∧ k < (ts.length : Int))) : opnd ts k = 0 := by unfold opnd; rw [if_neg hk]

theorem made_in (op a b : Int) (ha : 0 ≤ a ∧ a ≤ 4) : 0 ≤ made op a b ∧ made op a b ≤ 4 := by
  unfold made
  repeat' split
  all_goals omega
theorem plain_in (op a b : Int) (ha : 0 ≤ a ∧ a ≤ 4) : 0 ≤ plainT op a b ∧ plainT op a b ≤ 4 := by
  unfold plainT
  split
  · omega
  · split
    · omega
    · exact made_in op a b ha
/-- A node has a type and no error, or an error and no type. -/
theorem node_or (fs : List Fd) {ts : List Int} (h : Tys ts) (n : Zq.Nd) : ((nodeT fs ts n).2 = 0 ∧ Ty (nodeT fs ts n).1) ∨ ((nodeT fs ts n).1 = 0 ∧ ((nodeT fs ts n).2 = 120 ∨ (nodeT fs ts n).2 = 121)) := by
  unfold nodeT
  split
  · unfold claimT
    split
    · exact .inr ⟨rfl, .inl rfl⟩
    · split
      · rename_i ht
        exact .inl ⟨rfl, ht⟩
      · exact .inr ⟨rfl, .inr rfl⟩
  · split
    · unfold hasT
      split
      · exact .inr ⟨rfl, .inl rfl⟩
      · exact .inl ⟨rfl, by unfold Ty; omega⟩
    · split
      · exact .inr ⟨rfl, .inr rfl⟩
      · rename_i hz
        have := plain_in n.op (opnd ts n.a) (opnd ts n.b) (opnd_in h n.a)
        exact .inl ⟨rfl, by unfold Ty; simp only; omega⟩
theorem go_type (fs : List Fd) : ∀ (ns : List Zq.Nd) (ts : List Int), Tys ts → (go fs ts ns).2 = 0 ∨ ((go fs ts ns).1 = 0 ∧ ((go fs ts ns).2 = 120 ∨ (go fs ts ns).2 = 121))
  | [], _, _ => .inl rfl
  | n :: r, ts, h => by
    rcases node_or fs h n with ⟨h1, h2⟩ | ⟨h1, h2⟩
    · simp only [go, if_pos h1]
      exact go_type fs r _ (h.snoc h2)
    · have : ¬ (nodeT fs ts n).2 = 0 := by omega
      have e : go fs ts (n :: r) = (0, (nodeT fs ts n).2) := by simp only [go, if_neg this]
      rw [e]
      exact .inr ⟨rfl, h2⟩

/-! The table of the operators. -/
abbrev Entry := Int × Int × Int × Int
def table : List Entry := [(1, 0, 0, 1), (2, 0, 0, 2), (5, 1, 1, 1), (6, 1, 0, 1), (8, 1, 0, 1), (9, 1, 0, 1), (7, 4, 0, 1), (10, 1, 1, 3), (10, 2, 2, 3), (10, 3, 3, 3), (11, 2, 2, 3), (12, 1, 4, 3), (17, 1, 1, 3), (13, 3, 0, 3), (14, 3, 3, 3), (15, 3, 3, 3), (16, 1, 1, 1), (16, 2, 2, 2), (16, 3, 3, 3), (16, 4, 4, 4)]
def hit (op a b : Int) (e : Entry) : Bool := decide (e.1 = op) && (decide (e.2.1 = 0) || decide (a = e.2.1)) && (decide (e.2.2.1 = 0) || decide (b = e.2.2.1))
def first (op a b : Int) (l : List Entry) : Int :=
  match l.find? (hit op a b) with
  | none => 0
  | some e => e.2.2.2
theorem first_skip {op a b : Int} {e : Entry} {l : List Entry} (h : hit op a b e = false) : first op a b (e :: l) = first op a b l := by
  unfold first
  rw [List.find?_cons_of_neg (by rw [h]; exact Bool.false_ne_true)]
theorem first_hit {op a b : Int} {e : Entry} {l : List Entry} (h : hit op a b e = true) : first op a b (e :: l) = e.2.2.2 := by
  unfold first
  rw [List.find?_cons_of_pos (by rw [h])]
theorem first_none {op a b : Int} {l : List Entry} (h : ∀ e ∈ l, e.1 ≠ op) : first op a b l = 0 := by
  induction l with
  | nil => rfl
  | cons e r ih =>
    rw [first_skip (by unfold hit; rw [decide_eq_false (h e (by simp))]; rfl)]
    exact ih fun x hx => h x (by simp [hx])
theorem table_small : ∀ op : Fin 18, ∀ a b : Fin 5, first (op.val : Int) (a.val : Int) (b.val : Int) table = plainT (op.val : Int) (a.val : Int) (b.val : Int) := by decide +kernel
theorem table_made (op a b : Int) (ha : 0 ≤ a ∧ a ≤ 4) (hb : 0 ≤ b ∧ b ≤ 4) : first op a b table = plainT op a b := by
  by_cases h : 0 ≤ op ∧ op < 18
  · have := table_small ⟨op.toNat, by omega⟩ ⟨a.toNat, by omega⟩ ⟨b.toNat, by omega⟩
    simp only at this
    rwa [Int.toNat_of_nonneg h.1, Int.toNat_of_nonneg ha.1, Int.toNat_of_nonneg hb.1] at this
  · rw [first_none (by
      have : ∀ e ∈ table, 0 ≤ e.1 ∧ e.1 < 18 := by decide
      intro e he heq
      exact h (heq ▸ this e he))]
    unfold plainT made
    repeat' split
    all_goals omega

/-! More fields, and a beginning. -/
theorem find_more {fs : List Fd} (more : List Fd) {s : List Nat} {t : Int} (h : find fs s = some t) : find (fs ++ more) s = some t := by
  induction fs with
  | nil => cases h
  | cons f r ih =>
    simp only [List.cons_append, find] at h ⊢
    split at h
    · rename_i e; rw [if_pos e]; exact h
    · rename_i e; rw [if_neg e]; exact ih h
theorem node_more {fs : List Fd} (more : List Fd) {ts : List Int} {n : Zq.Nd} (h : (nodeT fs ts n).2 = 0) : nodeT (fs ++ more) ts n = nodeT fs ts n := by
  unfold nodeT at h ⊢
  split
  · rename_i e
    rw [if_pos e] at h
    unfold claimT at h ⊢
    cases hf : find fs n.text with
    | none => rw [hf] at h; simp at h
    | some t => rw [find_more more hf]
  · rename_i e
    rw [if_neg e] at h
    split
    · rename_i e'
      rw [if_pos e'] at h
      unfold hasT at h ⊢
      cases hf : find fs n.text with
      | none => rw [hf] at h; simp at h
      | some t => rw [find_more more hf]
    · rfl
theorem go_more {fs : List Fd} (more : List Fd) : ∀ (ns : List Zq.Nd) (ts : List Int), (go fs ts ns).2 = 0 → go (fs ++ more) ts ns = go fs ts ns
  | [], _, _ => rfl
  | n :: r, ts, h => by
    simp only [go] at h ⊢
    by_cases e : (nodeT fs ts n).2 = 0
    · rw [if_pos e] at h
      rw [node_more more e, if_pos e, if_pos e]
      exact go_more more r _ h
    · rw [if_neg e] at h
      exact absurd h e
theorem of_more {fs : List Fd} (more : List Fd) {ns : List Zq.Nd} (h : (of fs ns).2 = 0) : of (fs ++ more) ns = of fs ns := by
  unfold of at h ⊢
  split
  · rfl
  · rename_i e
    rw [if_neg e] at h
    exact go_more more ns [] h
theorem cond_more {fs : List Fd} (more : List Fd) {ns : List Zq.Nd} (h : cond fs ns = 0) : cond (fs ++ more) ns = 0 := by
  have h2 : (of fs ns).2 = 0 := by
    unfold cond at h
    split at h
    · rename_i e; exact e.1
    · exact h
  unfold cond at h ⊢
  rw [of_more more h2]
  exact h
theorem go_take {fs : List Fd} : ∀ (ns : List Zq.Nd) (ts : List Int) (k : Nat), (go fs ts ns).2 = 0 → (go fs ts (ns.take k)).2 = 0
  | [], ts, k, _ => by simp [go]
  | n :: r, ts, 0, _ => by simp [go]
  | n :: r, ts, k + 1, h => by
    simp only [List.take_succ_cons, go] at h ⊢
    by_cases e : (nodeT fs ts n).2 = 0
    · rw [if_pos e] at h ⊢
      exact go_take r _ k h
    · rw [if_neg e] at h
      exact absurd h e
theorem of_take {fs : List Fd} {ns : List Zq.Nd} {k : Nat} (hk : 0 < k) (h : (of fs ns).2 = 0) : (of fs (ns.take k)).2 = 0 := by
  unfold of at h ⊢
  by_cases e : ns = []
  · rw [if_pos e] at h; simp at h
  · rw [if_neg e] at h
    rw [if_neg (by
      intro h'
      rcases List.take_eq_nil_iff.1 h' with h' | h'
      · omega
      · exact e h')]
    exact go_take ns [] k h
end Go.Proofs.YtnbaajdcakjlmaaDoor.Tq

/-
  Fields and types in memory.
-/
namespace Go.Proofs.YtnbaajdcakjlmaaDoor
open Go.RowKit

abbrev fcell (f : Tq.Fd) : List Value := [.string (strOf f.name), .int .i64 f.type]
abbrev fdv (f : Tq.Fd) : Value := .agg #[.string (strOf f.name), .int .i64 f.type]
def fcells (l : List Tq.Fd) : List Value := l.flatMap fcell
theorem fcells_append (l m : List Tq.Fd) : fcells (l ++ m) = fcells l ++ fcells m := by simp [fcells]
theorem fcells_length (l : List Tq.Fd) : (fcells l).length = l.length * 2 := by
  induction l with
  | nil => rfl
  | cons a r ih =>
    have : fcells (a :: r) = fcell a ++ fcells r := rfl
    rw [this, List.length_append, ih]
    simp; omega
theorem fcells_ones (l : List Tq.Fd) : ∀ u ∈ fcells l, u.oneCell' = true := by
  intro u hu
  obtain ⟨f, _, hf⟩ := List.mem_flatMap.1 hu
  simp at hf
  rcases hf with rfl | rfl <;> rfl
theorem fcells_at : ∀ (fs : List Tq.Fd) (i j : Nat) (f : Tq.Fd), fs[i]? = some f → j < 2 → (fcells fs)[i * 2 + j]? = (fcell f)[j]?
  | [], i, j, n, h, _ => by simp at h
  | a :: r, 0, j, n, h, hj => by
    simp at h
    subst h
    show (fcell a ++ fcells r)[0 * 2 + j]? = _
    rw [List.getElem?_append_left (by simp; omega)]
    simp
  | a :: r, i + 1, j, n, h, hj => by
    show (fcell a ++ fcells r)[(i + 1) * 2 + j]? = _
    rw [List.getElem?_append_right (by simp; omega), show (i + 1) * 2 + j - (fcell a).length = i * 2 + j from by simp; omega]
    exact fcells_at r i j n (by simpa using h) hj
/-- A row of fields in memory. -/
def FsE (w : World) (ok : Nat → Prop) (v : Value) (fs : List Tq.Fd) : Prop :=
  ∃ A c, v = .slice A fs.length c ∧ fs.length ≤ c ∧ c ≤ 9223372036854775807 ∧ (∀ f ∈ fs, ∀ x ∈ f.name, x < 256) ∧ (0 < fs.length → ∃ b off, A = some ⟨b, off, none⟩ ∧ ok b ∧ b < w.heap.size ∧ ∀ j x, (fcells fs)[j]? = some x → w.cell? ⟨b, off + j, none⟩ = some x)
section
variable {w w' : World} {ok ok' : Nat → Prop} {v : Value} {fs : List Tq.Fd} {A : Option Addr} {n c : Nat}
theorem FsE.keep (h : FsE w ok v fs) (hs : w.heap.size ≤ w'.heap.size) (hk : ∀ b, ok b → b < w.heap.size → ok' b ∧ w'.heap[b]? = w.heap[b]?) : FsE w' ok' v fs := by
  obtain ⟨A, c, rfl, h1, h2, h4, h5⟩ := h
  refine ⟨A, c, rfl, h1, h2, h4, fun h => ?_⟩
  obtain ⟨b, off, rfl, k1, k2, k3⟩ := h5 h
  obtain ⟨g1, g2⟩ := hk b k1 k2
  exact ⟨b, off, rfl, g1, Nat.lt_of_lt_of_le k2 hs, fun j x e => (World.cell?_of_block (a := ⟨b, off + j, none⟩) g2).trans (k3 j x e)⟩
theorem FsE.more (h : FsE w ok v fs) (hb : Below w.heap.size w w') : FsE w' ok v fs := h.keep hb.size (fun b hb' hlt => ⟨hb', hb.block b hlt⟩)
theorem FsE.form (h : FsE w ok v fs) : ∃ A c, v = .slice A fs.length c := by
  obtain ⟨A, c, e, _⟩ := h
  exact ⟨A, c, e⟩
theorem FsE.len (h : FsE w ok v fs) : fs.length ≤ 9223372036854775807 := by
  obtain ⟨A, c, e, h1, h2, _⟩ := h
  omega
theorem FsE.elem (h : FsE w ok (.slice A n c) fs) {i : Nat} (hi : i < fs.length) :
    ∃ b off x, A = some ⟨b, off, none⟩ ∧ ok b ∧ b < w.heap.size ∧ fs[i]? = some x ∧ (∀ y ∈ x.name, y < 256) ∧
      w.cell? ⟨b, off + i * 2, none⟩ = some (.string (strOf x.name)) ∧ w.cell? ⟨b, off + i * 2 + 1, none⟩ = some (.int .i64 x.type) := by
  obtain ⟨A', c', e, h1, h2, h4, h5⟩ := h
  injection e with e1 e2 e3
  subst e1 e3
  obtain ⟨b, off, rfl, k1, k2, k3⟩ := h5 (by omega)
  have hx : fs[i]? = some fs[i] := List.getElem?_eq_getElem hi
  have hc : ∀ j u, j < 2 → (fcell fs[i])[j]? = some u → w.cell? ⟨b, off + (i * 2 + j), none⟩ = some u := fun j u hj hu => k3 _ u (by rw [fcells_at fs i j _ hx hj, hu])
  refine ⟨b, off, fs[i], rfl, k1, k2, hx, h4 _ (List.getElem_mem hi), hc 0 _ (by omega) rfl, ?_⟩
  rw [Nat.add_assoc]
  exact hc 1 _ (by omega) rfl
end
/-- None of the first k has that name. -/
theorem Tq.find_past {fs : List Tq.Fd} {s : List Nat} (h : ∀ f ∈ fs, f.name ≠ s) : Tq.find fs s = none := by
  induction fs with
  | nil => rfl
  | cons f r ih =>
    have := h f (by simp)
    simp only [Tq.find, if_neg this]
    exact ih fun x hx => h x (by simp [hx])
theorem Tq.find_here {fs : List Tq.Fd} {s : List Nat} {k : Nat} {f : Tq.Fd} (h : ∀ (j : Nat) (g : Tq.Fd), j < k → fs[j]? = some g → g.name ≠ s) (hf : fs[k]? = some f) (e : f.name = s) : Tq.find fs s = some f.type := by
  induction fs generalizing k with
  | nil => simp at hf
  | cons g r ih =>
    cases k with
    | zero =>
      simp at hf
      subst hf
      simp [Tq.find, e]
    | succ k =>
      have h0 := h 0 g (by omega) rfl
      simp only [Tq.find, if_neg h0]
      exact ih (k := k) (fun j x hj hx => h (j + 1) x (by omega) (by simpa using hx)) (by simpa using hf)
theorem Tq.find_nowhere {fs : List Tq.Fd} {s : List Nat} (h : ∀ (j : Nat) (g : Tq.Fd), fs[j]? = some g → g.name ≠ s) : Tq.find fs s = none :=
  Tq.find_past fun f hf => by
    obtain ⟨j, hj⟩ := List.getElem?_of_mem hf
    exact h j f hj
/-- Where a name is found: none of those ahead has it. -/
def NoneHas (fs : List Tq.Fd) (s : List Nat) (k : Nat) : Prop := ∀ (j : Nat) (g : Tq.Fd), j < k → fs[j]? = some g → g.name ≠ s
theorem NoneHas.zero (fs : List Tq.Fd) (s : List Nat) : NoneHas fs s 0 := fun _ _ h => absurd h (Nat.not_lt_zero _)
theorem NoneHas.succ {fs : List Tq.Fd} {s : List Nat} {k : Nat} {f : Tq.Fd} (h : NoneHas fs s k) (hf : fs[k]? = some f) (hne : f.name ≠ s) : NoneHas fs s (k + 1) := fun j g hj hg => by
  rcases Nat.lt_or_eq_of_le (Nat.le_of_lt_succ hj) with h' | h'
  · exact h j g h' hg
  · subst h'
    rw [hf] at hg
    injection hg with hg
    rw [← hg]; exact hne
theorem NoneHas.all {fs : List Tq.Fd} {s : List Nat} {n : Nat} (hn : fs.length = n) (h : NoneHas fs s n) : Tq.find fs s = none :=
  Tq.find_nowhere fun j g hg => h j g (by have := (List.getElem?_eq_some_iff.1 hg).1; omega) hg
/-- Types as cells. -/
def ints (ts : List Int) : List Value := ts.map fun t => .int .i64 t
theorem ints_length (ts : List Int) : (ints ts).length = ts.length := by simp [ints]
theorem ints_snoc (ts : List Int) (t : Int) : ints (ts ++ [t]) = ints ts ++ [.int .i64 t] := by simp [ints]
theorem ints_at {ts : List Int} {k : Nat} (h : k < ts.length) : (ints ts)[k]? = some (.int .i64 (ts.getD k 0)) := by
  simp [ints, List.getElem?_eq_getElem h, List.getD_eq_getElem?_getD]
end Go.Proofs.YtnbaajdcakjlmaaDoor

/-
  Where a field stands, and of which type it is: the document's field, and the program's place, ofClaim and ofHas.
-/
namespace Go.Proofs.YtnbaajdcakjlmaaDoor
open Go.RowKit

/-- What the document's field answers. -/
def fieldR (fs : List Tq.Fd) (s : List Nat) : Int :=
  match Tq.find fs s with
  | none => -1
  | some t => if t < 1 ∨ 4 < t then 0 else t
set_option maxHeartbeats 1000000 in
set_option maxRecDepth 100000 in
theorem refField_any {ok : Nat → Prop} (fs : List Tq.Fd) (s : List Nat) (A : Option Addr) (n c : Nat) (w : World) (hF : FsE w ok (.slice A n c) fs) (hn : fs.length = n) (hs : ∀ x ∈ s, x < 256) :
    Calls Tryd.prog 18 #[.slice A n c, .string (strOf s)] w fun e w' => w = w' ∧ e = .returned (.int .i64 (fieldR fs s)) := by
  have hns : n ≤ 9223372036854775807 := by rw [← hn]; exact hF.len
  have HF := Lib.hid hF
  have HN := Lib.hid hn
  have HS := Lib.hid hs
  obtain ⟨R, eR⟩ : ∃ R, fieldR fs s = R := ⟨_, rfl⟩
  have HR := Lib.hid eR
  rw [eR]
  clear hF hn hs eR
  go_enter Tryd.func18, Tryd.ntmps18
  go_wp2_with fail
  go_loop [5] (fun i => ∃ k : Nat, i = .int .i64 k ∧ k ≤ n ∧ Hid (NoneHas fs s k)) (fun i => n - (intOf i).toNat)
  case atStart => exact ⟨0, rfl, Nat.zero_le _, Lib.hid (NoneHas.zero _ _)⟩
  case round =>
    obtain ⟨k, rfl, hk, HNO⟩ := hrel
    by_cases hlt : k < n
    · obtain ⟨b, off, x, rfl, _, _, hx, hxn, c0, c1⟩ := HF.out.elem (i := k) (by rw [HN.out]; exact hlt)
      have hq := str_beq hxn HS.out
      by_cases he : x.name = s
      · have hd : ((strOf x.name).toList == (strOf s).toList) = true := by rw [hq]; exact decide_eq_true he
        have HE : Hid (Tq.find fs s = some x.type) := Tq.find_here HNO.out hx he
        by_cases hty : x.type < 1 ∨ 4 < x.type
        · have HQ : Hid ((.int .i64 0 : Value) = .int .i64 R) := by unfold Hid; rw [← HR.out]; unfold fieldR; rw [HE.out]; simp only; rw [if_pos hty]
          have hdd : decide (x.type < 1) = true ∨ (decide (x.type < 1) = false ∧ decide (4 < x.type) = true) := by
            by_cases h : x.type < 1
            · exact .inl (decide_eq_true h)
            · exact .inr ⟨decide_eq_false h, decide_eq_true (by omega)⟩
          clear hq he hx hxn hty HE
          rcases hdd with d1 | ⟨d1, d2⟩
          all_goals
            go_wp2
            go_ret
            exact ⟨rfl, congrArg Ending.returned HQ.out⟩
        · have HQ : Hid ((.int .i64 x.type : Value) = .int .i64 R) := by unfold Hid; rw [← HR.out]; unfold fieldR; rw [HE.out]; simp only; rw [if_neg hty]
          have d1 : decide (x.type < 1) = false := decide_eq_false (by omega)
          have d2 : decide (4 < x.type) = false := decide_eq_false (by omega)
          clear hq he hx hxn hty HE
          go_wp2
          go_ret
          exact ⟨rfl, congrArg Ending.returned HQ.out⟩
      · have hd : ((strOf x.name).toList == (strOf s).toList) = false := by rw [hq]; exact decide_eq_false he
        have HQ := Lib.hid (HNO.out.succ hx he)
        clear hq he hx hxn
        go_wp2
        go_round
        case rel => exact ⟨k + 1, by go_num, by omega, Lib.hid HQ.out⟩
        case measure => simp [intOf]; omega
    · obtain rfl : k = n := by omega
      have hd2 : decide ((k : Int) < (k : Int)) = false := by simp
      have HQ : Hid ((.int .i64 (-1) : Value) = .int .i64 R) := by unfold Hid; rw [← HR.out]; unfold fieldR; rw [NoneHas.all HN.out HNO.out]
      go_wp2
      go_ret
      exact ⟨rfl, congrArg Ending.returned HQ.out⟩

/-- Where the first field of a name stands, or -1. -/
def PlaceEnd (fs : List Tq.Fd) (s : List Nat) (w : World) (e : Ending) (w' : World) : Prop :=
  Below w.heap.size w w' ∧ ((∃ (k : Nat) (f : Tq.Fd), e = .returned (.int .i64 (k : Int)) ∧ fs[k]? = some f ∧ Tq.find fs s = some f.type) ∨ (e = .returned (.int .i64 (-1)) ∧ Tq.find fs s = none))
/-- A type and an error. -/
abbrev typeV (p : Int × Int) : Value := .tuple #[.int .i64 p.1, .int .i64 p.2]
end Go.Proofs.YtnbaajdcakjlmaaDoor

/-
  What an operator makes of its operands' types: the document's made.
-/
namespace Go.Proofs.YtnbaajdcakjlmaaDoor
open Go.RowKit

theorem int_no {a b : Int} (h : a ≠ b) : decide (a = b) = false ∧ (a == b) = false ∧ (a != b) = true := ⟨decide_eq_false h, beq_false_of_ne h, by rw [bne_iff_ne]; exact h⟩
theorem int_yes {a b : Int} (h : a = b) : decide (a = b) = true ∧ (a == b) = true ∧ (a != b) = false := by subst h; simp
set_option maxHeartbeats 2000000 in
set_option maxRecDepth 100000 in
theorem refMade_any (op a b : Int) (w : World) :
    Calls Tryd.prog 17 #[.int .i64 op, .int .i64 a, .int .i64 b] w fun e w' => w = w' ∧ e = .returned (.int .i64 (Tq.made op a b)) := by
  obtain ⟨R, eR⟩ : ∃ R, Tq.made op a b = R := ⟨_, rfl⟩
  rw [eR]
  by_cases h5 : op = 5
  · subst h5
    rcases Decidable.em (¬ a = 1) with g0 | g0
    · have HQ : Hid ((0 : Int) = R) := by unfold Hid; rw [← eR]; unfold Tq.made; simp [g0]
      obtain ⟨f0a, f0b, f0c⟩ := int_no g0
      clear eR
      clear g0
      go_enter Tryd.func17, Tryd.ntmps17
      go_wp2
      go_ret
      exact ⟨rfl, congrArg (fun z => Ending.returned (.int .i64 z)) HQ.out⟩
    have g0 := Decidable.not_not.1 g0
    obtain ⟨f0a, f0b, f0c⟩ := int_yes g0
    rcases Decidable.em (¬ b = 1) with g1 | g1
    · have HQ : Hid ((0 : Int) = R) := by unfold Hid; rw [← eR]; unfold Tq.made; simp [g0, g1]
      obtain ⟨f1a, f1b, f1c⟩ := int_no g1
      clear eR
      clear g1
      go_enter Tryd.func17, Tryd.ntmps17
      go_wp2
      go_ret
      exact ⟨rfl, congrArg (fun z => Ending.returned (.int .i64 z)) HQ.out⟩
    have g1 := Decidable.not_not.1 g1
    obtain ⟨f1a, f1b, f1c⟩ := int_yes g1
    have HQ : Hid ((1 : Int) = R) := by unfold Hid; rw [← eR]; unfold Tq.made; simp [g0, g1]
    clear eR g0 g1
    go_enter Tryd.func17, Tryd.ntmps17
    go_wp2
    go_ret
    exact ⟨rfl, congrArg (fun z => Ending.returned (.int .i64 z)) HQ.out⟩
  obtain ⟨q5a, q5b, q5c⟩ := int_no h5
  by_cases h6 : op = 6
  · subst h6
    rcases Decidable.em (¬ a = 1) with g0 | g0
    · have HQ : Hid ((0 : Int) = R) := by unfold Hid; rw [← eR]; unfold Tq.made; simp [g0]
      obtain ⟨f0a, f0b, f0c⟩ := int_no g0
      clear eR
      clear g0
      go_enter Tryd.func17, Tryd.ntmps17
      go_wp2
      go_ret
      exact ⟨rfl, congrArg (fun z => Ending.returned (.int .i64 z)) HQ.out⟩
    have g0 := Decidable.not_not.1 g0
    obtain ⟨f0a, f0b, f0c⟩ := int_yes g0
    have HQ : Hid ((1 : Int) = R) := by unfold Hid; rw [← eR]; unfold Tq.made; simp [g0]
    clear eR g0
    go_enter Tryd.func17, Tryd.ntmps17
    go_wp2
    go_ret
    exact ⟨rfl, congrArg (fun z => Ending.returned (.int .i64 z)) HQ.out⟩
  obtain ⟨q6a, q6b, q6c⟩ := int_no h6
  by_cases h8 : op = 8
  · subst h8
    rcases Decidable.em (¬ a = 1) with g0 | g0
    · have HQ : Hid ((0 : Int) = R) := by unfold Hid; rw [← eR]; unfold Tq.made; simp [g0]
      obtain ⟨f0a, f0b, f0c⟩ := int_no g0
      clear eR
      clear g0
      go_enter Tryd.func17, Tryd.ntmps17
      go_wp2
      go_ret
      exact ⟨rfl, congrArg (fun z => Ending.returned (.int .i64 z)) HQ.out⟩
    have g0 := Decidable.not_not.1 g0
    obtain ⟨f0a, f0b, f0c⟩ := int_yes g0
    have HQ : Hid ((1 : Int) = R) := by unfold Hid; rw [← eR]; unfold Tq.made; simp [g0]
    clear eR g0
    go_enter Tryd.func17, Tryd.ntmps17
    go_wp2
    go_ret
    exact ⟨rfl, congrArg (fun z => Ending.returned (.int .i64 z)) HQ.out⟩
  obtain ⟨q8a, q8b, q8c⟩ := int_no h8
  by_cases h9 : op = 9
  · subst h9
    rcases Decidable.em (¬ a = 1) with g0 | g0
    · have HQ : Hid ((0 : Int) = R) := by unfold Hid; rw [← eR]; unfold Tq.made; simp [g0]
      obtain ⟨f0a, f0b, f0c⟩ := int_no g0
      clear eR
      clear g0
      go_enter Tryd.func17, Tryd.ntmps17
      go_wp2
      go_ret
      exact ⟨rfl, congrArg (fun z => Ending.returned (.int .i64 z)) HQ.out⟩
    have g0 := Decidable.not_not.1 g0
    obtain ⟨f0a, f0b, f0c⟩ := int_yes g0
    have HQ : Hid ((1 : Int) = R) := by unfold Hid; rw [← eR]; unfold Tq.made; simp [g0]
    clear eR g0
    go_enter Tryd.func17, Tryd.ntmps17
    go_wp2
    go_ret
    exact ⟨rfl, congrArg (fun z => Ending.returned (.int .i64 z)) HQ.out⟩
  obtain ⟨q9a, q9b, q9c⟩ := int_no h9
  by_cases h7 : op = 7
  · subst h7
    rcases Decidable.em (¬ a = 4) with g0 | g0
    · have HQ : Hid ((0 : Int) = R) := by unfold Hid; rw [← eR]; unfold Tq.made; simp [g0]
      obtain ⟨f0a, f0b, f0c⟩ := int_no g0
      clear eR
      clear g0
      go_enter Tryd.func17, Tryd.ntmps17
      go_wp2
      go_ret
      exact ⟨rfl, congrArg (fun z => Ending.returned (.int .i64 z)) HQ.out⟩
    have g0 := Decidable.not_not.1 g0
    obtain ⟨f0a, f0b, f0c⟩ := int_yes g0
    have HQ : Hid ((1 : Int) = R) := by unfold Hid; rw [← eR]; unfold Tq.made; simp [g0]
    clear eR g0
    go_enter Tryd.func17, Tryd.ntmps17
    go_wp2
    go_ret
    exact ⟨rfl, congrArg (fun z => Ending.returned (.int .i64 z)) HQ.out⟩
  obtain ⟨q7a, q7b, q7c⟩ := int_no h7
  by_cases h10 : op = 10
  · subst h10
    rcases Decidable.em (¬ a = b) with g0 | g0
    · have HQ : Hid ((0 : Int) = R) := by unfold Hid; rw [← eR]; unfold Tq.made; simp [g0]
      obtain ⟨f0a, f0b, f0c⟩ := int_no g0
      clear eR
      clear g0
      go_enter Tryd.func17, Tryd.ntmps17
      go_wp2
      go_ret
      exact ⟨rfl, congrArg (fun z => Ending.returned (.int .i64 z)) HQ.out⟩
    have g0 := Decidable.not_not.1 g0
    subst g0
    by_cases g1 : a = 0
    · have HQ : Hid ((0 : Int) = R) := by unfold Hid; rw [← eR]; unfold Tq.made; simp [g1]
      obtain ⟨f1a, f1b, f1c⟩ := int_yes g1
      clear eR
      clear g1
      go_enter Tryd.func17, Tryd.ntmps17
      go_wp2
      go_ret
      exact ⟨rfl, congrArg (fun z => Ending.returned (.int .i64 z)) HQ.out⟩
    obtain ⟨f1a, f1b, f1c⟩ := int_no g1
    by_cases g2 : a = 4
    · have HQ : Hid ((0 : Int) = R) := by unfold Hid; rw [← eR]; unfold Tq.made; simp [g2]
      obtain ⟨f2a, f2b, f2c⟩ := int_yes g2
      clear eR
      clear g2
      go_enter Tryd.func17, Tryd.ntmps17
      go_wp2
      go_ret
      exact ⟨rfl, congrArg (fun z => Ending.returned (.int .i64 z)) HQ.out⟩
    obtain ⟨f2a, f2b, f2c⟩ := int_no g2
    have HQ : Hid ((3 : Int) = R) := by unfold Hid; rw [← eR]; unfold Tq.made; simp [g1, g2]
    clear eR g1 g2
    go_enter Tryd.func17, Tryd.ntmps17
    go_wp2
    go_ret
    exact ⟨rfl, congrArg (fun z => Ending.returned (.int .i64 z)) HQ.out⟩
  obtain ⟨q10a, q10b, q10c⟩ := int_no h10
  by_cases h11 : op = 11
  · subst h11
    rcases Decidable.em (¬ a = 2) with g0 | g0
    · have HQ : Hid ((0 : Int) = R) := by unfold Hid; rw [← eR]; unfold Tq.made; simp [g0]
      obtain ⟨f0a, f0b, f0c⟩ := int_no g0
      clear eR
      clear g0
      go_enter Tryd.func17, Tryd.ntmps17
      go_wp2
      go_ret
      exact ⟨rfl, congrArg (fun z => Ending.returned (.int .i64 z)) HQ.out⟩
    have g0 := Decidable.not_not.1 g0
    obtain ⟨f0a, f0b, f0c⟩ := int_yes g0
    rcases Decidable.em (¬ b = 2) with g1 | g1
    · have HQ : Hid ((0 : Int) = R) := by unfold Hid; rw [← eR]; unfold Tq.made; simp [g0, g1]
      obtain ⟨f1a, f1b, f1c⟩ := int_no g1
      clear eR
      clear g1
      go_enter Tryd.func17, Tryd.ntmps17
      go_wp2
      go_ret
      exact ⟨rfl, congrArg (fun z => Ending.returned (.int .i64 z)) HQ.out⟩
    have g1 := Decidable.not_not.1 g1
    obtain ⟨f1a, f1b, f1c⟩ := int_yes g1
    have HQ : Hid ((3 : Int) = R) := by unfold Hid; rw [← eR]; unfold Tq.made; simp [g0, g1]
    clear eR g0 g1
    go_enter Tryd.func17, Tryd.ntmps17
    go_wp2
    go_ret
    exact ⟨rfl, congrArg (fun z => Ending.returned (.int .i64 z)) HQ.out⟩
  obtain ⟨q11a, q11b, q11c⟩ := int_no h11
  by_cases h12 : op = 12
  · subst h12
    rcases Decidable.em (¬ a = 1) with g0 | g0
    · have HQ : Hid ((0 : Int) = R) := by unfold Hid; rw [← eR]; unfold Tq.made; simp [g0]
      obtain ⟨f0a, f0b, f0c⟩ := int_no g0
      clear eR
      clear g0
      go_enter Tryd.func17, Tryd.ntmps17
      go_wp2
      go_ret
      exact ⟨rfl, congrArg (fun z => Ending.returned (.int .i64 z)) HQ.out⟩
    have g0 := Decidable.not_not.1 g0
    obtain ⟨f0a, f0b, f0c⟩ := int_yes g0
    rcases Decidable.em (¬ b = 4) with g1 | g1
    · have HQ : Hid ((0 : Int) = R) := by unfold Hid; rw [← eR]; unfold Tq.made; simp [g0, g1]
      obtain ⟨f1a, f1b, f1c⟩ := int_no g1
      clear eR
      clear g1
      go_enter Tryd.func17, Tryd.ntmps17
      go_wp2
      go_ret
      exact ⟨rfl, congrArg (fun z => Ending.returned (.int .i64 z)) HQ.out⟩
    have g1 := Decidable.not_not.1 g1
    obtain ⟨f1a, f1b, f1c⟩ := int_yes g1
    have HQ : Hid ((3 : Int) = R) := by unfold Hid; rw [← eR]; unfold Tq.made; simp [g0, g1]
    clear eR g0 g1
    go_enter Tryd.func17, Tryd.ntmps17
    go_wp2
    go_ret
    exact ⟨rfl, congrArg (fun z => Ending.returned (.int .i64 z)) HQ.out⟩
  obtain ⟨q12a, q12b, q12c⟩ := int_no h12
  by_cases h17 : op = 17
  · subst h17
    rcases Decidable.em (¬ a = 1) with g0 | g0
    · have HQ : Hid ((0 : Int) = R) := by unfold Hid; rw [← eR]; unfold Tq.made; simp [g0]
      obtain ⟨f0a, f0b, f0c⟩ := int_no g0
      clear eR
      clear g0
      go_enter Tryd.func17, Tryd.ntmps17
      go_wp2
      go_ret
      exact ⟨rfl, congrArg (fun z => Ending.returned (.int .i64 z)) HQ.out⟩
    have g0 := Decidable.not_not.1 g0
    obtain ⟨f0a, f0b, f0c⟩ := int_yes g0
    rcases Decidable.em (¬ b = 1) with g1 | g1
    · have HQ : Hid ((0 : Int) = R) := by unfold Hid; rw [← eR]; unfold Tq.made; simp [g0, g1]
      obtain ⟨f1a, f1b, f1c⟩ := int_no g1
      clear eR
      clear g1
      go_enter Tryd.func17, Tryd.ntmps17
      go_wp2
      go_ret
      exact ⟨rfl, congrArg (fun z => Ending.returned (.int .i64 z)) HQ.out⟩
    have g1 := Decidable.not_not.1 g1
    obtain ⟨f1a, f1b, f1c⟩ := int_yes g1
    have HQ : Hid ((3 : Int) = R) := by unfold Hid; rw [← eR]; unfold Tq.made; simp [g0, g1]
    clear eR g0 g1
    go_enter Tryd.func17, Tryd.ntmps17
    go_wp2
    go_ret
    exact ⟨rfl, congrArg (fun z => Ending.returned (.int .i64 z)) HQ.out⟩
  obtain ⟨q17a, q17b, q17c⟩ := int_no h17
  by_cases h13 : op = 13
  · subst h13
    rcases Decidable.em (¬ a = 3) with g0 | g0
    · have HQ : Hid ((0 : Int) = R) := by unfold Hid; rw [← eR]; unfold Tq.made; simp [g0]
      obtain ⟨f0a, f0b, f0c⟩ := int_no g0
      clear eR
      clear g0
      go_enter Tryd.func17, Tryd.ntmps17
      go_wp2
      go_ret
      exact ⟨rfl, congrArg (fun z => Ending.returned (.int .i64 z)) HQ.out⟩
    have g0 := Decidable.not_not.1 g0
    obtain ⟨f0a, f0b, f0c⟩ := int_yes g0
    have HQ : Hid ((3 : Int) = R) := by unfold Hid; rw [← eR]; unfold Tq.made; simp [g0]
    clear eR g0
    go_enter Tryd.func17, Tryd.ntmps17
    go_wp2
    go_ret
    exact ⟨rfl, congrArg (fun z => Ending.returned (.int .i64 z)) HQ.out⟩
  obtain ⟨q13a, q13b, q13c⟩ := int_no h13
  by_cases h14 : op = 14
  · subst h14
    rcases Decidable.em (¬ a = 3) with g0 | g0
    · have HQ : Hid ((0 : Int) = R) := by unfold Hid; rw [← eR]; unfold Tq.made; simp [g0]
      obtain ⟨f0a, f0b, f0c⟩ := int_no g0
      clear eR
      clear g0
      go_enter Tryd.func17, Tryd.ntmps17
      go_wp2
      go_ret
      exact ⟨rfl, congrArg (fun z => Ending.returned (.int .i64 z)) HQ.out⟩
    have g0 := Decidable.not_not.1 g0
    obtain ⟨f0a, f0b, f0c⟩ := int_yes g0
    rcases Decidable.em (¬ b = 3) with g1 | g1
    · have HQ : Hid ((0 : Int) = R) := by unfold Hid; rw [← eR]; unfold Tq.made; simp [g0, g1]
      obtain ⟨f1a, f1b, f1c⟩ := int_no g1
      clear eR
      clear g1
      go_enter Tryd.func17, Tryd.ntmps17
      go_wp2
      go_ret
      exact ⟨rfl, congrArg (fun z => Ending.returned (.int .i64 z)) HQ.out⟩
    have g1 := Decidable.not_not.1 g1
    obtain ⟨f1a, f1b, f1c⟩ := int_yes g1
    have HQ : Hid ((3 : Int) = R) := by unfold Hid; rw [← eR]; unfold Tq.made; simp [g0, g1]
    clear eR g0 g1
    go_enter Tryd.func17, Tryd.ntmps17
    go_wp2
    go_ret
    exact ⟨rfl, congrArg (fun z => Ending.returned (.int .i64 z)) HQ.out⟩
  obtain ⟨q14a, q14b, q14c⟩ := int_no h14
  by_cases h15 : op = 15
  · subst h15
    rcases Decidable.em (¬ a = 3) with g0 | g0
    · have HQ : Hid ((0 : Int) = R) := by unfold Hid; rw [← eR]; unfold Tq.made; simp [g0]
      obtain ⟨f0a, f0b, f0c⟩ := int_no g0
      clear eR
      clear g0
      go_enter Tryd.func17, Tryd.ntmps17
      go_wp2
      go_ret
      exact ⟨rfl, congrArg (fun z => Ending.returned (.int .i64 z)) HQ.out⟩
    have g0 := Decidable.not_not.1 g0
    obtain ⟨f0a, f0b, f0c⟩ := int_yes g0
    rcases Decidable.em (¬ b = 3) with g1 | g1
    · have HQ : Hid ((0 : Int) = R) := by unfold Hid; rw [← eR]; unfold Tq.made; simp [g0, g1]
      obtain ⟨f1a, f1b, f1c⟩ := int_no g1
      clear eR
      clear g1
      go_enter Tryd.func17, Tryd.ntmps17
      go_wp2
      go_ret
      exact ⟨rfl, congrArg (fun z => Ending.returned (.int .i64 z)) HQ.out⟩
    have g1 := Decidable.not_not.1 g1
    obtain ⟨f1a, f1b, f1c⟩ := int_yes g1
    have HQ : Hid ((3 : Int) = R) := by unfold Hid; rw [← eR]; unfold Tq.made; simp [g0, g1]
    clear eR g0 g1
    go_enter Tryd.func17, Tryd.ntmps17
    go_wp2
    go_ret
    exact ⟨rfl, congrArg (fun z => Ending.returned (.int .i64 z)) HQ.out⟩
  obtain ⟨q15a, q15b, q15c⟩ := int_no h15
  by_cases h16 : op = 16
  · subst h16
    rcases Decidable.em (¬ a = b) with g0 | g0
    · have HQ : Hid ((0 : Int) = R) := by unfold Hid; rw [← eR]; unfold Tq.made; simp [g0]
      obtain ⟨f0a, f0b, f0c⟩ := int_no g0
      clear eR
      clear g0
      go_enter Tryd.func17, Tryd.ntmps17
      go_wp2
      go_ret
      exact ⟨rfl, congrArg (fun z => Ending.returned (.int .i64 z)) HQ.out⟩
    have g0 := Decidable.not_not.1 g0
    subst g0
    have HQ : Hid ((a : Int) = R) := by unfold Hid; rw [← eR]; unfold Tq.made; simp
    clear eR 
    go_enter Tryd.func17, Tryd.ntmps17
    go_wp2
    go_ret
    exact ⟨rfl, congrArg (fun z => Ending.returned (.int .i64 z)) HQ.out⟩
  obtain ⟨q16a, q16b, q16c⟩ := int_no h16
  have HQ : Hid ((0 : Int) = R) := by unfold Hid; rw [← eR]; unfold Tq.made; simp [h5, h6, h8, h9, h7, h10, h11, h12, h17, h13, h14, h15, h16]
  clear eR h5 h6 h8 h9 h7 h10 h11 h12 h17 h13 h14 h15 h16
  go_enter Tryd.func17, Tryd.ntmps17
  go_wp2
  go_ret
  exact ⟨rfl, congrArg (fun z => Ending.returned (.int .i64 z)) HQ.out⟩
end Go.Proofs.YtnbaajdcakjlmaaDoor

/-
  Which names are the tokens' own: the program's Reserved, and the document's.
-/
namespace Go.Proofs.YtnbaajdcakjlmaaDoor.Vq
abbrev issN : List Nat := [105, 115, 115]
abbrev subN : List Nat := [115, 117, 98]
abbrev audN : List Nat := [97, 117, 100]
abbrev expN : List Nat := [101, 120, 112]
abbrev iatN : List Nat := [105, 97, 116]
abbrev nbfN : List Nat := [110, 98, 102]
abbrev nonceN : List Nat := [110, 111, 110, 99, 101]
def Reserved (n : List Nat) : Prop := n = issN ∨ n = subN ∨ n = audN ∨ n = expN ∨ n = iatN ∨ n = nbfN ∨ n = nonceN
instance reservedDec (n : List Nat) : Decidable (Reserved n) := inferInstanceAs (Decidable (_ ∨ _))
end Go.Proofs.YtnbaajdcakjlmaaDoor.Vq
namespace Go.Proofs.YtnbaajdcakjlmaaDoor
open Go.RowKit

theorem name_beq {t q : List Nat} (ht : ∀ y ∈ t, y < 256) (hq : ∀ y ∈ q, y < 256) {b : Bool} (h : decide (t = q) = b) {l : List UInt8} (hl : (strOf q).toList = l) : ((strOf t).toList == l) = b := by
  rw [← h, ← hl]
  exact str_beq ht hq
set_option maxHeartbeats 1000000 in
set_option maxRecDepth 100000 in
theorem reserved_any (t : List Nat) (ht : ∀ y ∈ t, y < 256) (w : World) :
    Calls Tryd.prog 25 #[.string (strOf t)] w fun e w' => w = w' ∧ e = .returned (.bool (decide (Vq.Reserved t))) := by
  by_cases h0 : t = Vq.issN
  · have e0 := name_beq ht (q := Vq.issN) (by decide) (decide_eq_true h0) (l := [105, 115, 115]) (by rw [ByteArray.toList_eq]; decide)
    have HR : Hid (decide (Vq.Reserved t) = true) := decide_eq_true (.inl h0)
    generalize decide (Vq.Reserved t) = R at *
    generalize strOf t = S at *
    clear h0 ht 
    go_enter Tryd.func25, Tryd.ntmps25
    go_wp2
    go_ret
    exact ⟨rfl, congrArg (fun r => Ending.returned (.bool r)) HR.out.symm⟩
  have e0 := name_beq ht (q := Vq.issN) (by decide) (decide_eq_false h0) (l := [105, 115, 115]) (by rw [ByteArray.toList_eq]; decide)
  by_cases h1 : t = Vq.subN
  · have e1 := name_beq ht (q := Vq.subN) (by decide) (decide_eq_true h1) (l := [115, 117, 98]) (by rw [ByteArray.toList_eq]; decide)
    have HR : Hid (decide (Vq.Reserved t) = true) := decide_eq_true (.inr (.inl h1))
    generalize decide (Vq.Reserved t) = R at *
    generalize strOf t = S at *
    clear h1 ht h0
    go_enter Tryd.func25, Tryd.ntmps25
    go_wp2
    go_ret
    exact ⟨rfl, congrArg (fun r => Ending.returned (.bool r)) HR.out.symm⟩
  have e1 := name_beq ht (q := Vq.subN) (by decide) (decide_eq_false h1) (l := [115, 117, 98]) (by rw [ByteArray.toList_eq]; decide)
  by_cases h2 : t = Vq.audN
  · have e2 := name_beq ht (q := Vq.audN) (by decide) (decide_eq_true h2) (l := [97, 117, 100]) (by rw [ByteArray.toList_eq]; decide)
    have HR : Hid (decide (Vq.Reserved t) = true) := decide_eq_true (.inr (.inr (.inl h2)))
    generalize decide (Vq.Reserved t) = R at *
    generalize strOf t = S at *
    clear h2 ht h0 h1
    go_enter Tryd.func25, Tryd.ntmps25
    go_wp2
    go_ret
    exact ⟨rfl, congrArg (fun r => Ending.returned (.bool r)) HR.out.symm⟩
  have e2 := name_beq ht (q := Vq.audN) (by decide) (decide_eq_false h2) (l := [97, 117, 100]) (by rw [ByteArray.toList_eq]; decide)
  by_cases h3 : t = Vq.expN
  · have e3 := name_beq ht (q := Vq.expN) (by decide) (decide_eq_true h3) (l := [101, 120, 112]) (by rw [ByteArray.toList_eq]; decide)
    have HR : Hid (decide (Vq.Reserved t) = true) := decide_eq_true (.inr (.inr (.inr (.inl h3))))
    generalize decide (Vq.Reserved t) = R at *
    generalize strOf t = S at *
    clear h3 ht h0 h1 h2
    go_enter Tryd.func25, Tryd.ntmps25
    go_wp2
    go_ret
    exact ⟨rfl, congrArg (fun r => Ending.returned (.bool r)) HR.out.symm⟩
  have e3 := name_beq ht (q := Vq.expN) (by decide) (decide_eq_false h3) (l := [101, 120, 112]) (by rw [ByteArray.toList_eq]; decide)
  by_cases h4 : t = Vq.iatN
  · have e4 := name_beq ht (q := Vq.iatN) (by decide) (decide_eq_true h4) (l := [105, 97, 116]) (by rw [ByteArray.toList_eq]; decide)
    have HR : Hid (decide (Vq.Reserved t) = true) := decide_eq_true (.inr (.inr (.inr (.inr (.inl h4)))))
    generalize decide (Vq.Reserved t) = R at *
    generalize strOf t = S at *
    clear h4 ht h0 h1 h2 h3
    go_enter Tryd.func25, Tryd.ntmps25
    go_wp2
    go_ret
    exact ⟨rfl, congrArg (fun r => Ending.returned (.bool r)) HR.out.symm⟩
  have e4 := name_beq ht (q := Vq.iatN) (by decide) (decide_eq_false h4) (l := [105, 97, 116]) (by rw [ByteArray.toList_eq]; decide)
  by_cases h5 : t = Vq.nbfN
  · have e5 := name_beq ht (q := Vq.nbfN) (by decide) (decide_eq_true h5) (l := [110, 98, 102]) (by rw [ByteArray.toList_eq]; decide)
    have HR : Hid (decide (Vq.Reserved t) = true) := decide_eq_true (.inr (.inr (.inr (.inr (.inr (.inl h5))))))
    generalize decide (Vq.Reserved t) = R at *
    generalize strOf t = S at *
    clear h5 ht h0 h1 h2 h3 h4
    go_enter Tryd.func25, Tryd.ntmps25
    go_wp2
    go_ret
    exact ⟨rfl, congrArg (fun r => Ending.returned (.bool r)) HR.out.symm⟩
  have e5 := name_beq ht (q := Vq.nbfN) (by decide) (decide_eq_false h5) (l := [110, 98, 102]) (by rw [ByteArray.toList_eq]; decide)
  by_cases h6 : t = Vq.nonceN
  · have e6 := name_beq ht (q := Vq.nonceN) (by decide) (decide_eq_true h6) (l := [110, 111, 110, 99, 101]) (by rw [ByteArray.toList_eq]; decide)
    have HR : Hid (decide (Vq.Reserved t) = true) := decide_eq_true (.inr (.inr (.inr (.inr (.inr (.inr (h6)))))))
    generalize decide (Vq.Reserved t) = R at *
    generalize strOf t = S at *
    clear h6 ht h0 h1 h2 h3 h4 h5
    go_enter Tryd.func25, Tryd.ntmps25
    go_wp2
    go_ret
    exact ⟨rfl, congrArg (fun r => Ending.returned (.bool r)) HR.out.symm⟩
  have e6 := name_beq ht (q := Vq.nonceN) (by decide) (decide_eq_false h6) (l := [110, 111, 110, 99, 101]) (by rw [ByteArray.toList_eq]; decide)
  have HR : Hid (decide (Vq.Reserved t) = false) := decide_eq_false (by unfold Vq.Reserved; simp only [h0, h1, h2, h3, h4, h5, h6, or_self, not_false_eq_true])
  generalize decide (Vq.Reserved t) = R at *
  generalize strOf t = S at *
  clear ht h0 h1 h2 h3 h4 h5 h6
  go_enter Tryd.func25, Tryd.ntmps25
  go_wp2
  go_ret
  exact ⟨rfl, congrArg (fun r => Ending.returned (.bool r)) HR.out.symm⟩

theorem beq_turn {l m : List UInt8} {b : Bool} (h : (m == l) = b) : (l == m) = b := by rw [← h, Bool.eq_iff_iff, beq_iff_eq, beq_iff_eq]; exact eq_comm
def tokenNames : List (List Nat) := [Vq.issN, Vq.subN, Vq.audN, Vq.expN, Vq.iatN, Vq.nbfN, Vq.nonceN]
theorem reserved_iff (t : List Nat) : Vq.Reserved t ↔ ∃ j : Nat, tokenNames[j]? = some t := by
  unfold Vq.Reserved tokenNames
  constructor
  · rintro (h | h | h | h | h | h | h) <;> subst h
    · exact ⟨0, rfl⟩
    · exact ⟨1, rfl⟩
    · exact ⟨2, rfl⟩
    · exact ⟨3, rfl⟩
    · exact ⟨4, rfl⟩
    · exact ⟨5, rfl⟩
    · exact ⟨6, rfl⟩
  · rintro ⟨j, h⟩
    match j, h with
    | 0, h => exact .inl (Option.some.inj h).symm
    | 1, h => exact .inr (.inl (Option.some.inj h).symm)
    | 2, h => exact .inr (.inr (.inl (Option.some.inj h).symm))
    | 3, h => exact .inr (.inr (.inr (.inl (Option.some.inj h).symm)))
    | 4, h => exact .inr (.inr (.inr (.inr (.inl (Option.some.inj h).symm))))
    | 5, h => exact .inr (.inr (.inr (.inr (.inr (.inl (Option.some.inj h).symm)))))
    | 6, h => exact .inr (.inr (.inr (.inr (.inr (.inr (Option.some.inj h).symm)))))
    | j + 7, h => simp at h
end Go.Proofs.YtnbaajdcakjlmaaDoor
