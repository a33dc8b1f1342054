/-
  Maps, plain: what an expression says of claims, and rules that are done. Whether two values are the same is told by any function that tells it (Same).
-/
import Derived.Test.YtnbaajdcakjlmaaDoorM03
import Derived.Test.YtnbaajdcakjlmaaDoorM01
import Derived.Test.YtnbaajdcakjlmaaDoorQJ
import Derived.Test.YtnbaajdcakjlmaaDoorQP
namespace Go.Proofs.YtnbaajdcakjlmaaDoor.Mq
open Jq (J)

/-- What tells whether two values are the same. -/
abbrev Same := {f : J → J → Bool // ∀ a b, f a b = true ↔ a = b}
theorem some_same : ∃ _ : Same, True := ⟨⟨fun a b => @decide (a = b) (Classical.propDecidable _), fun a b => by simp⟩, trivial⟩
theorem Same.refl (S : Same) (a : J) : S.1 a a = true := (S.2 a a).2 rfl

def Fit (x : J) : Prop := Tq.fitsP x 1 ∨ Tq.fitsP x 2 ∨ Tq.fitsP x 3 ∨ Tq.fitsP x 4
instance fitDec (x : J) : Decidable (Fit x) := inferInstanceAs (Decidable (_ ∨ _))
def claimV (v : J) (s : List Nat) : J := match getP v s with
  | none => Jq.nullJ
  | some x => if Fit x then x else Jq.nullJ
def at_ (l : List J) (k : Int) : J := if 0 ≤ k ∧ k < (l.length : Int) then l.getD k.toNat Jq.nullJ else Jq.nullJ
def isTrue (x : J) : Bool := decide (x.kind = 1) && x.bool
def lowB (c : Nat) : Nat := if 65 ≤ c ∧ c ≤ 90 then c + 32 else c
def headV (s : List Nat) : J := if (Uq.front 64 s).length < s.length then Jq.textJ (Uq.front 64 s) else Jq.nullJ
def tailV (s : List Nat) : J := if (Uq.front 64 s).length < s.length then Jq.textJ (Uq.behind 64 s) else Jq.nullJ
def joinV (s t : List Nat) : J := if s.length + t.length ≤ 4096 then Jq.textJ (s ++ t) else Jq.nullJ
def ofOne (op : Int) (a : J) : J :=
  if op = 6 ∧ a.kind = 3 then Jq.textJ (a.text.map lowB)
  else if op = 8 ∧ a.kind = 3 then headV a.text
  else if op = 9 ∧ a.kind = 3 then tailV a.text
  else if op = 7 ∧ a.kind = 4 then at_ a.list 0
  else if op = 13 ∧ a.kind = 1 then Jq.boolJ (!a.bool)
  else Jq.nullJ
def ofTwo (S : Same) (op : Int) (a b : J) : J :=
  if op = 14 then Jq.boolJ (isTrue a && isTrue b)
  else if op = 15 then Jq.boolJ (isTrue a || isTrue b)
  else if op = 16 then (if a.kind = 0 then b else a)
  else if op = 5 ∧ a.kind = 3 ∧ b.kind = 3 then joinV a.text b.text
  else if op = 17 ∧ a.kind = 3 ∧ b.kind = 3 then Jq.boolJ (decide (a.text.take b.text.length = b.text))
  else if op = 11 ∧ a.kind = 2 ∧ b.kind = 2 then Jq.boolJ (decide (a.int < b.int))
  else if op = 12 ∧ a.kind = 3 ∧ b.kind = 4 then Jq.boolJ (b.list.any (S.1 a))
  else if op = 10 ∧ a.kind = b.kind ∧ (a.kind = 3 ∨ a.kind = 2 ∨ a.kind = 1) then Jq.boolJ (S.1 a b)
  else Jq.nullJ
def One (op : Int) : Prop := op = 6 ∨ op = 7 ∨ op = 8 ∨ op = 9 ∨ op = 13
instance oneDec (op : Int) : Decidable (One op) := inferInstanceAs (Decidable (_ ∨ _))
def has (l : List J) (k : Int) : Prop := 0 ≤ k ∧ k < (l.length : Int)
instance hasDec (l : List J) (k : Int) : Decidable (has l k) := inferInstanceAs (Decidable (_ ∧ _))
def nodeV (S : Same) (v : J) (l : List J) (n : Zq.Nd) : J :=
  if n.op = 1 then Jq.textJ n.text
  else if n.op = 2 then Jq.intJ n.int
  else if n.op = 3 then claimV v n.text
  else if n.op = 4 then Jq.boolJ (!decide ((claimV v n.text).kind = 0))
  else if One n.op then ofOne n.op (at_ l n.a)
  else if has l n.a ∧ has l n.b then ofTwo S n.op (at_ l n.a) (at_ l n.b)
  else Jq.nullJ
def go (S : Same) (v : J) : List J → List Zq.Nd → List J
  | l, [] => l
  | l, n :: r => go S v (l ++ [nodeV S v l n]) r
def valueV (S : Same) (v : J) (ns : List Zq.Nd) : J := at_ (go S v [] ns) ((ns.length : Int) - 1)
def applies (S : Same) (v : J) (r : Zq.Rl) : Bool := if r.cond = [] then !decide (r.name = []) else isTrue (valueV S v r.cond)
abbrev Obj := List (List Nat) × List J
def set (o : Obj) (name : List Nat) (x : J) : Obj := match firstAt name o.1 with
  | some k => (o.1, o.2.set k x)
  | none => (o.1 ++ [name], o.2 ++ [x])
/-- A rule that is done, and denies nothing. -/
def step (S : Same) (v : J) (o : Obj) (r : Zq.Rl) : Obj :=
  if (valueV S v r.expr).kind ≠ 0 ∧ ¬ Vq.Reserved r.name then set o r.name (valueV S v r.expr) else o
/-- Rules that are done one by one; none: one has denied. -/
def run (S : Same) (v : J) : Obj → List Zq.Rl → Option Obj
  | o, [] => some o
  | o, r :: l => if applies S v r then (if r.name = [] then none else run S v (step S v o r) l) else run S v o l
def runV (S : Same) (v : J) (l : List Zq.Rl) : J × Int := match run S v ([], []) l with
  | none => (Jq.nullJ, 130)
  | some o => if (Jq.valueP 16 [] (Jq.objJ o.1 o.2)).isSome then (Jq.objJ o.1 o.2, 0) else (Jq.nullJ, 131)

theorem at_none {l : List J} {k : Int} (h : ¬ has l k) : at_ l k = Jq.nullJ := by unfold at_; exact if_neg h
theorem at_some {l : List J} {k : Nat} {x : J} (h : l[k]? = some x) : at_ l (k : Int) = x := by
  have hk := (List.getElem?_eq_some_iff.1 h).1
  unfold at_
  rw [if_pos (by omega), Int.toNat_natCast, List.getD_eq_getElem?_getD, h]
  rfl
theorem at_mem {l : List J} {k : Int} (h : has l k) : ∃ m : Nat, k = (m : Int) ∧ l[m]? = some (at_ l k) := by
  unfold has at *
  obtain ⟨m, rfl⟩ : ∃ m : Nat, k = (m : Int) := ⟨k.toNat, by omega⟩
  have hlt : m < l.length := by omega
  refine ⟨m, rfl, ?_⟩
  rw [at_some (List.getElem?_eq_getElem hlt)]
  exact List.getElem?_eq_getElem hlt
theorem go_length (S : Same) (v : J) : ∀ (ns : List Zq.Nd) (l : List J), (go S v l ns).length = l.length + ns.length
  | [], l => rfl
  | n :: r, l => by rw [go, go_length S v r]; simp; omega
theorem go_snoc (S : Same) (v : J) : ∀ (ns : List Zq.Nd) (l : List J) (n : Zq.Nd), go S v l (ns ++ [n]) = go S v l ns ++ [nodeV S v (go S v l ns) n]
  | [], l, n => rfl
  | m :: r, l, n => by simp only [List.cons_append, go]; exact go_snoc S v r _ n
theorem go_take (S : Same) (v : J) {ns : List Zq.Nd} {k : Nat} {n : Zq.Nd} (h : ns[k]? = some n) : go S v [] (ns.take (k + 1)) = go S v [] (ns.take k) ++ [nodeV S v (go S v [] (ns.take k)) n] := by
  obtain ⟨h1, h2⟩ := List.getElem?_eq_some_iff.1 h
  rw [List.take_succ_eq_append_getElem h1, h2, go_snoc]

/-! What is said is of its type. -/
def OrNone (x : J) (t : Int) : Prop := x.kind = 0 ∨ Tq.fitsP x t
def Typed (ts : List Int) (l : List J) : Prop := ts.length = l.length ∧ ∀ (i : Nat) (x : J) (t : Int), l[i]? = some x → ts[i]? = some t → OrNone x t
theorem Typed.nil : Typed [] [] := ⟨rfl, fun i x t h => by simp at h⟩
theorem Typed.snoc {ts : List Int} {l : List J} {x : J} {t : Int} (h : Typed ts l) (hx : OrNone x t) : Typed (ts ++ [t]) (l ++ [x]) := by
  refine ⟨by simp [h.1], fun i y u hy hu => ?_⟩
  by_cases hi : i < l.length
  · rw [List.getElem?_append_left hi] at hy
    rw [List.getElem?_append_left (by rw [h.1]; exact hi)] at hu
    exact h.2 i y u hy hu
  · rw [List.getElem?_append_right (by omega)] at hy
    rw [List.getElem?_append_right (by rw [h.1]; omega), h.1] at hu
    have hi0 : i - l.length = 0 := by
      have := (List.getElem?_eq_some_iff.1 hy).1
      simp at this; omega
    rw [hi0] at hy hu
    simp at hy hu
    subst hy hu
    exact hx
theorem Typed.at_ {ts : List Int} {l : List J} (h : Typed ts l) (k : Int) : OrNone (at_ l k) (Tq.opnd ts k) := by
  by_cases hk : has l k
  · obtain ⟨m, rfl, hm⟩ := at_mem hk
    have hk' : m < ts.length := by rw [h.1]; exact (List.getElem?_eq_some_iff.1 hm).1
    have e : Tq.opnd ts (m : Int) = ts.getD m 0 := by
      unfold Tq.opnd
      rw [if_pos (by omega), Int.toNat_natCast]
    rw [e, List.getD_eq_getElem?_getD, List.getElem?_eq_getElem hk']
    exact h.2 m _ _ hm (List.getElem?_eq_getElem hk')
  · rw [at_none hk]; exact .inl rfl
theorem fits_text (s : List Nat) : OrNone (Jq.textJ s) 1 := .inr (.inl ⟨rfl, rfl⟩)
theorem fits_bool (b : Bool) : OrNone (Jq.boolJ b) 3 := .inr (.inr (.inr (.inl ⟨rfl, rfl⟩)))
theorem fits_int (n : Int) : OrNone (Jq.intJ n) 2 := .inr (.inr (.inl ⟨rfl, rfl⟩))
theorem fits_null (t : Int) : OrNone Jq.nullJ t := .inl rfl
theorem one_typed {op t : Int} {a : J} (ho : One op) (h : OrNone a t) (hm : Tq.made op t 0 ≠ 0 ∨ ∀ b, Tq.made op t b ≠ 0) (b : Int) : OrNone (ofOne op a) (Tq.made op t b) := by
  have hz : ∀ b', Tq.made op t b' = Tq.made op t b := by
    intro b'
    unfold Tq.made
    rcases ho with rfl | rfl | rfl | rfl | rfl <;> simp
  have hm : Tq.made op t b ≠ 0 := by
    rcases hm with h | h
    · rw [← hz 0]; exact h
    · exact h b
  unfold ofOne
  split
  · rename_i h1
    have : Tq.made op t b = 1 := by unfold Tq.made at hm ⊢; rw [h1.1] at hm ⊢; simp at hm ⊢; exact hm
    rw [this]; exact fits_text _
  split
  · rename_i h1
    have : Tq.made op t b = 1 := by unfold Tq.made at hm ⊢; rw [h1.1] at hm ⊢; simp at hm ⊢; exact hm
    rw [this]; unfold headV; split
    · exact fits_text _
    · exact fits_null _
  split
  · rename_i h1
    have : Tq.made op t b = 1 := by unfold Tq.made at hm ⊢; rw [h1.1] at hm ⊢; simp at hm ⊢; exact hm
    rw [this]; unfold tailV; split
    · exact fits_text _
    · exact fits_null _
  split
  · rename_i h1
    have ht : t = 4 := by unfold Tq.made at hm; rw [h1.1] at hm; simp at hm; exact hm
    have : Tq.made op t b = 1 := by unfold Tq.made; rw [h1.1, ht]; simp
    rw [this]
    rcases h with h | h
    · rw [h1.2] at h; cases h
    · rw [ht] at h
      rcases h with h | h | h | h
      · exact absurd h.1 (by decide)
      · exact absurd h.1 (by decide)
      · exact absurd h.1 (by decide)
      · by_cases hk : has a.list 0
        · obtain ⟨m, _, hm⟩ := at_mem hk
          exact .inr (.inl ⟨rfl, h.2.2 _ (List.mem_of_getElem? hm)⟩)
        · rw [at_none hk]; exact fits_null _
  split
  · rename_i h1
    have : Tq.made op t b = 3 := by unfold Tq.made at hm ⊢; rw [h1.1] at hm ⊢; simp at hm ⊢; exact hm
    rw [this]; exact fits_bool _
  · exact fits_null _
theorem two_typed (S : Same) {op t u : Int} {a b : J} (ha : OrNone a t) (hb : OrNone b u) (hm : Tq.made op t u ≠ 0) : OrNone (ofTwo S op a b) (Tq.made op t u) := by
  have e3 : (op = 14 ∨ op = 15 ∨ op = 17 ∨ op = 11 ∨ op = 12 ∨ op = 10) → Tq.made op t u = 3 := by
    intro h
    unfold Tq.made at hm ⊢
    rcases h with rfl | rfl | rfl | rfl | rfl | rfl <;> simp at hm ⊢ <;> first | exact hm | simp [hm]
  unfold ofTwo
  split
  · rename_i h; rw [e3 (.inl h)]; exact fits_bool _
  split
  · rename_i h; rw [e3 (.inr (.inl h))]; exact fits_bool _
  split
  · rename_i h
    have : t = u ∧ Tq.made op t u = t := by unfold Tq.made at hm ⊢; rw [h] at hm ⊢; simp at hm ⊢; exact ⟨hm.1, fun g => absurd hm.1 g⟩
    rw [this.2]
    split
    · rw [this.1]; exact hb
    · exact ha
  split
  · rename_i h
    have : Tq.made op t u = 1 := by unfold Tq.made at hm ⊢; rw [h.1] at hm ⊢; simp at hm ⊢; exact hm
    rw [this]; unfold joinV; split
    · exact fits_text _
    · exact fits_null _
  split
  · rename_i h; rw [e3 (.inr (.inr (.inl h.1)))]; exact fits_bool _
  split
  · rename_i h; rw [e3 (.inr (.inr (.inr (.inl h.1))))]; exact fits_bool _
  split
  · rename_i h; rw [e3 (.inr (.inr (.inr (.inr (.inl h.1)))))]; exact fits_bool _
  split
  · rename_i h; rw [e3 (.inr (.inr (.inr (.inr (.inr h.1)))))]; exact fits_bool _
  · exact fits_null _
theorem find_mem : ∀ {fs : List Tq.Fd} {s : List Nat} {t : Int}, Tq.find fs s = some t → ∃ f ∈ fs, f.name = s ∧ f.type = t
  | [], _, _, h => by cases h
  | f :: r, s, t, h => by
    unfold Tq.find at h
    split at h
    · rename_i hn
      injection h with h
      exact ⟨f, by simp, hn, h⟩
    · obtain ⟨g, h1, h2⟩ := find_mem h
      exact ⟨g, by simp [h1], h2⟩
def FieldsFit (fs : List Tq.Fd) (v : J) : Prop := ∀ f ∈ fs, ∀ x, getP v f.name = some x → Tq.fitsP x f.type
theorem fit_of {x : J} {t : Int} (ht : 1 ≤ t ∧ t ≤ 4) (h : Tq.fitsP x t) : Fit x := by
  unfold Fit
  rcases (by omega : t = 1 ∨ t = 2 ∨ t = 3 ∨ t = 4) with rfl | rfl | rfl | rfl
  · exact .inl h
  · exact .inr (.inl h)
  · exact .inr (.inr (.inl h))
  · exact .inr (.inr (.inr h))
theorem node_typed (S : Same) {fs : List Tq.Fd} {v : J} {ts : List Int} {l : List J} (hF : FieldsFit fs v) (h : Typed ts l) (n : Zq.Nd) (hm : (Tq.nodeT fs ts n).2 = 0) : OrNone (nodeV S v l n) (Tq.nodeT fs ts n).1 := by
  unfold Tq.nodeT at hm ⊢
  unfold nodeV
  by_cases h1 : n.op = 1
  · have e : Tq.plainT n.op (Tq.opnd ts n.a) (Tq.opnd ts n.b) = 1 := by unfold Tq.plainT; rw [if_pos h1]
    rw [if_pos h1, if_neg (by omega), if_neg (by omega), e]
    exact fits_text _
  rw [if_neg h1]
  by_cases h2 : n.op = 2
  · have e : Tq.plainT n.op (Tq.opnd ts n.a) (Tq.opnd ts n.b) = 2 := by unfold Tq.plainT; rw [if_neg h1, if_pos h2]
    rw [if_pos h2, if_neg (by omega), if_neg (by omega), e]
    exact fits_int _
  rw [if_neg h2]
  by_cases h3 : n.op = 3
  · rw [if_pos h3] at hm ⊢
    rw [if_pos h3]
    unfold Tq.claimT at hm ⊢
    cases hf : Tq.find fs n.text with
    | none => rw [hf] at hm; cases hm
    | some t =>
      rw [hf] at hm
      simp only at hm ⊢
      by_cases ht : 1 ≤ t ∧ t ≤ 4
      · rw [if_pos ht]
        obtain ⟨f, hf1, hf2, hf3⟩ := find_mem hf
        unfold claimV
        cases hg : getP v n.text with
        | none => exact fits_null _
        | some x =>
          have := hF f hf1 x (by rw [hf2]; exact hg)
          rw [hf3] at this
          simp only
          rw [if_pos (fit_of ht this)]
          exact .inr this
      · rw [if_neg ht] at hm; cases hm
  rw [if_neg h3] at hm ⊢
  rw [if_neg h3]
  by_cases h4 : n.op = 4
  · rw [if_pos h4] at hm ⊢
    rw [if_pos h4]
    unfold Tq.hasT at hm ⊢
    cases hf : Tq.find fs n.text with
    | none => rw [hf] at hm; cases hm
    | some t => exact fits_bool _
  rw [if_neg h4] at hm ⊢
  rw [if_neg h4]
  have e : Tq.plainT n.op (Tq.opnd ts n.a) (Tq.opnd ts n.b) = Tq.made n.op (Tq.opnd ts n.a) (Tq.opnd ts n.b) := by unfold Tq.plainT; rw [if_neg h1, if_neg h2]
  rw [e] at hm ⊢
  by_cases hz : Tq.made n.op (Tq.opnd ts n.a) (Tq.opnd ts n.b) = 0
  · rw [if_pos hz] at hm; cases hm
  rw [if_neg hz]
  simp only
  by_cases ho : One n.op
  · rw [if_pos ho]
    refine one_typed ho (h.at_ n.a) (.inr fun b => ?_) _
    intro e0
    apply hz
    rw [← e0]
    unfold Tq.made
    rcases ho with ho | ho | ho | ho | ho <;> rw [ho] <;> simp
  rw [if_neg ho]
  split
  · exact two_typed S (h.at_ n.a) (h.at_ n.b) hz
  · exact fits_null _
theorem go_typed (S : Same) {fs : List Tq.Fd} {v : J} (hF : FieldsFit fs v) : ∀ (ns : List Zq.Nd) (ts : List Int) (l : List J), Typed ts l → (Tq.go fs ts ns).2 = 0 → ∃ ts', Typed ts' (go S v l ns) ∧ (Tq.go fs ts ns).1 = Tq.lastT ts'
  | [], ts, l, h, _ => ⟨ts, h, rfl⟩
  | n :: r, ts, l, h, hz => by
    by_cases hn : (Tq.nodeT fs ts n).2 = 0
    · simp only [Tq.go, if_pos hn] at hz ⊢
      exact go_typed S hF r _ _ (h.snoc (node_typed S hF h n hn)) hz
    · simp only [Tq.go, if_neg hn] at hz
      exact absurd hz hn
/-- What an expression that makes sense says of claims that fit is of its type. -/
theorem value_typed (S : Same) {fs : List Tq.Fd} {v : J} {ns : List Zq.Nd} {t : Int} (hF : FieldsFit fs v) (h : Tq.of fs ns = (t, 0)) : OrNone (valueV S v ns) t := by
  unfold Tq.of at h
  by_cases h0 : ns = []
  · rw [if_pos h0] at h
    injection h with _ h
    cases h
  rw [if_neg h0] at h
  obtain ⟨ts, h1, h2⟩ := go_typed S hF ns [] [] Typed.nil (by rw [h])
  rw [h] at h2
  have hl := go_length S v ns []
  have hp : 0 < ns.length := List.length_pos_iff.2 h0
  simp at hl
  have h3 := h1.at_ ((ns.length : Int) - 1)
  have e : Tq.opnd ts ((ns.length : Int) - 1) = Tq.lastT ts := by
    unfold Tq.opnd Tq.lastT
    rw [if_pos (by have := h1.1; omega), h1.1, hl, show ((ns.length : Int) - 1).toNat = ns.length - 1 from by omega]
  rw [e, ← h2] at h3
  exact h3

/-! Rules one behind the other. -/
theorem run_append (S : Same) (v : J) : ∀ (l m : List Zq.Rl) (o : Obj), run S v o (l ++ m) = (match run S v o l with | none => none | some o' => run S v o' m)
  | [], m, o => rfl
  | r :: l, m, o => by
    simp only [List.cons_append, run]
    split
    · split
      · rfl
      · exact run_append S v l m _
    · exact run_append S v l m _
theorem set_names (o : Obj) (name : List Nat) (x : J) : ∃ q, (set o name x).1 = o.1 ++ q := by
  unfold set
  split
  · exact ⟨[], by simp⟩
  · exact ⟨[name], rfl⟩
theorem step_names (S : Same) (v : J) (o : Obj) (r : Zq.Rl) : ∃ q, (step S v o r).1 = o.1 ++ q := by
  unfold step
  split
  · exact set_names _ _ _
  · exact ⟨[], by simp⟩
theorem run_names (S : Same) (v : J) : ∀ (l : List Zq.Rl) (o o' : Obj), run S v o l = some o' → ∃ q, o'.1 = o.1 ++ q
  | [], o, o', h => by
    injection h with h
    subst h
    exact ⟨[], by simp⟩
  | r :: l, o, o', h => by
    simp only [run] at h
    split at h
    · split at h
      · cases h
      · obtain ⟨q1, h1⟩ := run_names S v l _ o' h
        obtain ⟨q2, h2⟩ := step_names S v o r
        exact ⟨q2 ++ q1, by rw [h1, h2, List.append_assoc]⟩
    · exact run_names S v l o o' h
theorem set_len {o : Obj} (name : List Nat) (x : J) (h : o.1.length = o.2.length) : (set o name x).1.length = (set o name x).2.length ∧ (set o name x).2.length ≤ o.2.length + 1 := by
  unfold set
  split
  · simp [h]
  · simp [h]
theorem step_len (S : Same) (v : J) {o : Obj} (r : Zq.Rl) (h : o.1.length = o.2.length) : (step S v o r).1.length = (step S v o r).2.length ∧ (step S v o r).2.length ≤ o.2.length + 1 := by
  unfold step
  split
  · exact set_len _ _ h
  · exact ⟨h, Nat.le_succ _⟩

/-! A claim that is not named is not seen. -/
def Unnamed (z : List Nat) (ns : List Zq.Nd) : Prop := ∀ n ∈ ns, n.text ≠ z
theorem claim_alike {v w : J} (z : List Nat) (h : ∀ s, s ≠ z → getP v s = getP w s) {s : List Nat} (hs : s ≠ z) : claimV v s = claimV w s := by unfold claimV; rw [h s hs]
theorem node_alike (S : Same) {v w : J} {z : List Nat} (h : ∀ s, s ≠ z → getP v s = getP w s) {n : Zq.Nd} (hn : n.text ≠ z) (l : List J) : nodeV S v l n = nodeV S w l n := by
  unfold nodeV
  rw [claim_alike z h hn]
theorem go_alike (S : Same) {v w : J} {z : List Nat} (h : ∀ s, s ≠ z → getP v s = getP w s) : ∀ (ns : List Zq.Nd) (l : List J), Unnamed z ns → go S v l ns = go S w l ns
  | [], _, _ => rfl
  | n :: r, l, hn => by
    simp only [go]
    rw [node_alike S h (hn n (by simp)) l]
    exact go_alike S h r _ fun x hx => hn x (by simp [hx])
theorem value_alike (S : Same) {v w : J} {z : List Nat} (h : ∀ s, s ≠ z → getP v s = getP w s) {ns : List Zq.Nd} (hn : Unnamed z ns) : valueV S v ns = valueV S w ns := by
  unfold valueV; rw [go_alike S h ns [] hn]
theorem run_alike (S : Same) {v w : J} {z : List Nat} (h : ∀ s, s ≠ z → getP v s = getP w s) : ∀ (l : List Zq.Rl) (o : Obj), (∀ r ∈ l, Unnamed z r.expr ∧ Unnamed z r.cond) → run S v o l = run S w o l
  | [], _, _ => rfl
  | r :: l, o, hl => by
    have hr := hl r (by simp)
    have hr' := fun o => run_alike S h l o fun x hx => hl x (by simp [hx])
    simp only [run]
    have e1 : applies S v r = applies S w r := by unfold applies; rw [value_alike S h hr.2]
    have e2 : step S v o r = step S w o r := by unfold step; rw [value_alike S h hr.1]
    rw [e1, e2, hr', hr']
theorem runV_alike (S : Same) {v w : J} {z : List Nat} (h : ∀ s, s ≠ z → getP v s = getP w s) (l : List Zq.Rl) (hl : ∀ r ∈ l, Unnamed z r.expr ∧ Unnamed z r.cond) : runV S v l = runV S w l := by
  unfold runV; rw [run_alike S h l _ hl]
theorem get_more {v x : J} {z : List Nat} (hk : v.kind = 5) (hl : v.names.length = v.list.length) (s : List Nat) (hs : s ≠ z) : getP v s = getP (Jq.objJ (z :: v.names) (x :: v.list)) s := by
  unfold getP
  rw [if_pos ⟨hk, hl⟩, if_pos ⟨rfl, by show (z :: v.names).length = (x :: v.list).length; simp [hl]⟩]
  show _ = (match firstAt s (z :: v.names) with | some k => (x :: v.list)[k]? | none => none)
  rw [firstAt, if_neg (fun e => hs e.symm)]
  cases firstAt s v.names with
  | none => rfl
  | some k => rfl
/-- A rule that always denies. -/
theorem run_deny (S : Same) (v : J) (o : Obj) (r : Zq.Rl) (l : List Zq.Rl) (h1 : applies S v r = true) (h2 : r.name = []) : run S v o (r :: l) = none := by
  simp only [run]
  rw [if_pos h1, if_pos h2]
end Go.Proofs.YtnbaajdcakjlmaaDoor.Mq
