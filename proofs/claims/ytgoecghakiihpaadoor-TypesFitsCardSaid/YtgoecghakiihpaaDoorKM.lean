/-
  Types, plain: the type of a node behind others, of an expression, and whether rules make sense.
-/
import Derived.Test.YtgoecghakiihpaaDoorZM
namespace Go.Proofs.YtgoecghakiihpaaDoor.Tq

/-- A field that is declared. -/
structure Fd where
  name : List Nat
  type : Int
  deriving DecidableEq
/-- The type of the first field of that name. -/
def find : List Fd → List Nat → Option Int
  | [], _ => none
  | f :: r, s => if f.name = s then some f.type else find r s
/-- An operand's type; 0: it has none. -/
def opnd (ts : List Int) (k : Int) : Int := if 0 ≤ k ∧ k < (ts.length : Int) then ts.getD k.toNat 0 else 0
def made (op a b : Int) : Int :=
  if op = 5 then (if a = 1 ∧ b = 1 then 1 else 0)
  else if op = 6 ∨ op = 8 ∨ op = 9 then (if a = 1 then 1 else 0)
  else if op = 7 then (if a = 4 then 1 else 0)
  else if op = 10 then (if a = b ∧ a ≠ 0 ∧ a ≠ 4 then 3 else 0)
  else if op = 11 then (if a = 2 ∧ b = 2 then 3 else 0)
  else if op = 12 then (if a = 1 ∧ b = 4 then 3 else 0)
  else if op = 17 then (if a = 1 ∧ b = 1 then 3 else 0)
  else if op = 13 then (if a = 3 then 3 else 0)
  else if op = 14 ∨ op = 15 then (if a = 3 ∧ b = 3 then 3 else 0)
  else if op = 16 then (if a = b then a else 0)
  else 0
def plainT (op a b : Int) : Int := if op = 1 then 1 else if op = 2 then 2 else made op a b
def claimT (fs : List Fd) (s : List Nat) : Int × Int :=
  match find fs s with
  | none => (0, 120)
  | some t => if 1 ≤ t ∧ t ≤ 4 then (t, 0) else (0, 121)
def hasT (fs : List Fd) (s : List Nat) : Int × Int :=
  match find fs s with
  | none => (0, 120)
  | some _ => (3, 0)
/-- A node's type, and its error. -/
def nodeT (fs : List Fd) (ts : List Int) (n : Zq.Nd) : Int × Int :=
  if n.op = 3 then claimT fs n.text
  else if n.op = 4 then hasT fs n.text
  else if plainT n.op (opnd ts n.a) (opnd ts n.b) = 0 then (0, 121) else (plainT n.op (opnd ts n.a) (opnd ts n.b), 0)
def lastT (ts : List Int) : Int := ts.getD (ts.length - 1) 0
def go (fs : List Fd) : List Int → List Zq.Nd → Int × Int
  | ts, [] => (lastT ts, 0)
  | ts, n :: r => if (nodeT fs ts n).2 = 0 then go fs (ts ++ [(nodeT fs ts n).1]) r else (0, (nodeT fs ts n).2)
def of (fs : List Fd) (ns : List Zq.Nd) : Int × Int := if ns = [] then (0, 121) else go fs [] ns
def cond (fs : List Fd) (ns : List Zq.Nd) : Int := if (of fs ns).2 = 0 ∧ (of fs ns).1 ≠ 3 then 121 else (of fs ns).2

/-- Types that there are. -/
def Ty (t : Int) : Prop := 1 ≤ t ∧ t ≤ 4
def Tys (ts : List Int) : Prop := ∀ t ∈ ts, Ty t
theorem Tys.nil : Tys [] := fun _ h => nomatch h
theorem Tys.snoc {ts : List Int} {t : Int} (h : Tys ts) (ht : Ty t) : Tys (ts ++ [t]) := fun x hx => by
  rcases List.mem_append.1 hx with h' | h'
  · exact h x h'
  · rw [List.mem_singleton.1 h']; exact ht
theorem opnd_in {ts : List Int} (h : Tys ts) (k : Int) : 0 ≤ opnd ts k ∧ opnd ts k ≤ 4 := by
  unfold opnd
  split
  · rename_i hk
    have hlt : k.toNat < ts.length := by omega
    rw [List.getD_eq_getElem?_getD, List.getElem?_eq_getElem hlt]
    have := h _ (List.getElem_mem hlt)
    unfold Ty at this
    simp only [Option.getD_some]
    omega
  · omega
theorem opnd_pos {ts : List Int} (h : Tys ts) {k : Int} (hk : 0 ≤ k ∧ k < (ts.length : Int)) : opnd ts k = ts.getD k.toNat 0 ∧ opnd ts k ≠ 0 := by
  have e : opnd ts k = ts.getD k.toNat 0 := by unfold opnd; rw [if_pos hk]
  refine ⟨e, ?_⟩
  have hlt : k.toNat < ts.length := by omega
  rw [e, List.getD_eq_getElem?_getD, List.getElem?_eq_getElem hlt]
  have := h _ (List.getElem_mem hlt)
  unfold Ty at this
  simp only [Option.getD_some]
  omega
theorem opnd_none {ts : List Int} {k : Int} (hk : ¬ (0 ≤ k ∧ k < (ts.length : Int))) : opnd ts k = 0 := by unfold opnd; rw [if_neg hk]

theorem made_in (op a b : Int) (ha : 0 ≤ a ∧ a ≤ 4) : 0 ≤ made op a b ∧ made op a b ≤ 4 := by
  unfold made
  repeat' split
  all_goals omega
theorem plain_in (op a b : Int) (ha : 0 ≤ a ∧ a ≤ 4) : 0 ≤ plainT op a b ∧ plainT op a b ≤ 4 := by
  unfold plainT
  split
  · omega
  · split
    · omega
    · exact made_in op a b ha
/-- A node has a type and no error, or an error and no type. -/
theorem node_or (fs : List Fd) {ts : List Int} (h : Tys ts) (n : Zq.Nd) : ((nodeT fs ts n).2 = 0 ∧ Ty (nodeT fs ts n).1) ∨ ((nodeT fs ts n).1 = 0 ∧ ((nodeT fs ts n).2 = 120 ∨ (nodeT fs ts n).2 = 121)) := by
  unfold nodeT
  split
  · unfold claimT
    split
    · exact .inr ⟨rfl, .inl rfl⟩
    · split
      · rename_i ht
        exact .inl ⟨rfl, ht⟩
      · exact .inr ⟨rfl, .inr rfl⟩
  · split
    · unfold hasT
      split
      · exact .inr ⟨rfl, .inl rfl⟩
      · exact .inl ⟨rfl, by unfold Ty; omega⟩
    · split
      · exact .inr ⟨rfl, .inr rfl⟩
      · rename_i hz
        have := plain_in n.op (opnd ts n.a) (opnd ts n.b) (opnd_in h n.a)
        exact .inl ⟨rfl, by unfold Ty; simp only; omega⟩
theorem go_type (fs : List Fd) : ∀ (ns : List Zq.Nd) (ts : List Int), Tys ts → (go fs ts ns).2 = 0 ∨ ((go fs ts ns).1 = 0 ∧ ((go fs ts ns).2 = 120 ∨ (go fs ts ns).2 = 121))
  | [], _, _ => .inl rfl
  | n :: r, ts, h => by
    rcases node_or fs h n with ⟨h1, h2⟩ | ⟨h1, h2⟩
    · simp only [go, if_pos h1]
      exact go_type fs r _ (h.snoc h2)
    · have : ¬ (nodeT fs ts n).2 = 0 := by omega
      have e : go fs ts (n :: r) = (0, (nodeT fs ts n).2) := by simp only [go, if_neg this]
      rw [e]
      exact .inr ⟨rfl, h2⟩

/-! The table of the operators. -/
abbrev Entry := Int × Int × Int × Int
def table : List Entry := [(1, 0, 0, 1), (2, 0, 0, 2), (5, 1, 1, 1), (6, 1, 0, 1), (8, 1, 0, 1), (9, 1, 0, 1), (7, 4, 0, 1), (10, 1, 1, 3), (10, 2, 2, 3), (10, 3, 3, 3), (11, 2, 2, 3), (12, 1, 4, 3), (17, 1, 1, 3), (13, 3, 0, 3), (14, 3, 3, 3), (15, 3, 3, 3), (16, 1, 1, 1), (16, 2, 2, 2), (16, 3, 3, 3), (16, 4, 4, 4)]
def hit (op a b : Int) (e : Entry) : Bool := decide (e.1 = op) && (decide (e.2.1 = 0) || decide (a = e.2.1)) && (decide (e.2.2.1 = 0) || decide (b = e.2.2.1))
def first (op a b : Int) (l : List Entry) : Int :=
  match l.find? (hit op a b) with
  | none => 0
  | some e => e.2.2.2
theorem first_skip {op a b : Int} {e : Entry} {l : List Entry} (h : hit op a b e = false) : first op a b (e :: l) = first op a b l := by
  unfold first
  rw [List.find?_cons_of_neg (by rw [h]; exact Bool.false_ne_true)]
theorem first_hit {op a b : Int} {e : Entry} {l : List Entry} (h : hit op a b e = true) : first op a b (e :: l) = e.2.2.2 := by
  unfold first
  rw [List.find?_cons_of_pos (by rw [h])]
theorem first_none {op a b : Int} {l : List Entry} (h : ∀ e ∈ l, e.1 ≠ op) : first op a b l = 0 := by
  induction l with
  | nil => rfl
  | cons e r ih =>
    rw [first_skip (by unfold hit; rw [decide_eq_false (h e (by simp))]; rfl)]
    exact ih fun x hx => h x (by simp [hx])
theorem table_small : ∀ op : Fin 18, ∀ a b : Fin 5, first (op.val : Int) (a.val : Int) (b.val : Int) table = plainT (op.val : Int) (a.val : Int) (b.val : Int) := by decide +kernel
theorem table_made (op a b : Int) (ha : 0 ≤ a ∧ a ≤ 4) (hb : 0 ≤ b ∧ b ≤ 4) : first op a b table = plainT op a b := by
  by_cases h : 0 ≤ op ∧ op < 18
  · have := table_small ⟨op.toNat, by omega⟩ ⟨a.toNat, by omega⟩ ⟨b.toNat, by omega⟩
    simp only at this
    rwa [Int.toNat_of_nonneg h.1, Int.toNat_of_nonneg ha.1, Int.toNat_of_nonneg hb.1] at this
  · rw [first_none (by
      have : ∀ e ∈ table, 0 ≤ e.1 ∧ e.1 < 18 := by decide
      intro e he heq
      exact h (heq ▸ this e he))]
    unfold plainT made
    repeat' split
    all_goals omega

/-! More fields, and a beginning. -/
theorem find_more {fs : List Fd} (more : List Fd) {s : List Nat} {t : Int} (h : find fs s = some t) : find (fs ++ more) s = some t := by
  induction fs with
  | nil => cases h
  | cons f r ih =>
    simp only [List.cons_append, find] at h ⊢
    split at h
    · rename_i e; rw [if_pos e]; exact h
    · rename_i e; rw [if_neg e]; exact ih h
theorem node_more {fs : List Fd} (more : List Fd) {ts : List Int} {n : Zq.Nd} (h : (nodeT fs ts n).2 = 0) : nodeT (fs ++ more) ts n = nodeT fs ts n := by
  unfold nodeT at h ⊢
  split
  · rename_i e
    rw [if_pos e] at h
    unfold claimT at h ⊢
    cases hf : find fs n.text with
    | none => rw [hf] at h; simp at h
    | some t => rw [find_more more hf]
  · rename_i e
    rw [if_neg e] at h
    split
    · rename_i e'
      rw [if_pos e'] at h
      unfold hasT at h ⊢
      cases hf : find fs n.text with
      | none => rw [hf] at h; simp at h
      | some t => rw [find_more more hf]
    · rfl
theorem go_more {fs : List Fd} (more : List Fd) : ∀ (ns : List Zq.Nd) (ts : List Int), (go fs ts ns).2 = 0 → go (fs ++ more) ts ns = go fs ts ns
  | [], _, _ => rfl
  | n :: r, ts, h => by
    simp only [go] at h ⊢
    by_cases e : (nodeT fs ts n).2 = 0
    · rw [if_pos e] at h
      rw [node_more more e, if_pos e, if_pos e]
      exact go_more more r _ h
    · rw [if_neg e] at h
      exact absurd h e
theorem of_more {fs : List Fd} (more : List Fd) {ns : List Zq.Nd} (h : (of fs ns).2 = 0) : of (fs ++ more) ns = of fs ns := by
  unfold of at h ⊢
  split
  · rfl
  · rename_i e
    rw [if_neg e] at h
    exact go_more more ns [] h
theorem cond_more {fs : List Fd} (more : List Fd) {ns : List Zq.Nd} (h : cond fs ns = 0) : cond (fs ++ more) ns = 0 := by
  have h2 : (of fs ns).2 = 0 := by
    unfold cond at h
    split at h
    · rename_i e; exact e.1
    · exact h
  unfold cond at h ⊢
  rw [of_more more h2]
  exact h
theorem go_take {fs : List Fd} : ∀ (ns : List Zq.Nd) (ts : List Int) (k : Nat), (go fs ts ns).2 = 0 → (go fs ts (ns.take k)).2 = 0
  | [], ts, k, _ => by simp [go]
  | n :: r, ts, 0, _ => by simp [go]
  | n :: r, ts, k + 1, h => by
    simp only [List.take_succ_cons, go] at h ⊢
    by_cases e : (nodeT fs ts n).2 = 0
    · rw [if_pos e] at h ⊢
      exact go_take r _ k h
    · rw [if_neg e] at h
      exact absurd h e
theorem of_take {fs : List Fd} {ns : List Zq.Nd} {k : Nat} (hk : 0 < k) (h : (of fs ns).2 = 0) : (of fs (ns.take k)).2 = 0 := by
  unfold of at h ⊢
  by_cases e : ns = []
  · rw [if_pos e] at h; simp at h
  · rw [if_neg e] at h
    rw [if_neg (by
      intro h'
      rcases List.take_eq_nil_iff.1 h' with h' | h'
      · omega
      · exact e h')]
    exact go_take ns [] k h
end Go.Proofs.YtgoecghakiihpaaDoor.Tq
