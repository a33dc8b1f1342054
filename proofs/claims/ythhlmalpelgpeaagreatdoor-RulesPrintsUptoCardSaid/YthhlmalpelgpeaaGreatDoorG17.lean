/-
  G17: ZT ZP ZQ, side by side.
-/
import Derived.Test.YthhlmalpelgpeaaGreatDoorG16

/-
  Rules, plain: an expression that was read is a tree, its nodes in a row; how deep it may be.
-/
namespace Go.Proofs.YthhlmalpelgpeaaGreatDoor.Zq

inductive T where
  | leaf (n : Nd)
  | un (op : Int) (t : T)
  | bin (op : Int) (a b : T)
namespace T
def size : T → Nat
  | leaf _ => 1
  | un _ t => t.size + 1
  | bin _ a b => a.size + b.size + 1
def op : T → Int
  | leaf n => n.op
  | un o _ => o
  | bin o _ _ => o
/-- The nodes in a row, from a number on. -/
def flat : T → Nat → List Nd
  | leaf n, _ => [n]
  | un o t, i => t.flat i ++ [⟨o, 0, ((i + t.size - 1 : Nat) : Int), 0, []⟩]
  | bin o a b, i => a.flat i ++ b.flat (i + a.size) ++ [⟨o, 0, ((i + a.size - 1 : Nat) : Int), ((i + a.size + b.size - 1 : Nat) : Int), []⟩]
theorem size_pos : ∀ t : T, 1 ≤ t.size
  | leaf _ => Nat.le_refl _
  | un _ t => by unfold size; omega
  | bin _ a b => by unfold size; omega
theorem flat_len : ∀ (t : T) (i : Nat), (t.flat i).length = t.size
  | leaf _, _ => rfl
  | un _ t, i => by simp [flat, size, flat_len t i]
  | bin _ a b, i => by simp [flat, size, flat_len a i, flat_len b (i + a.size)]; omega
end T
def NameOk (t : List Nat) : Prop := (∃ c r, t = c :: r ∧ low c = true) ∧ (∀ c ∈ t, inName c = true) ∧ t.length ≤ 32
def LeafOk (n : Nd) : Prop :=
  (∃ x, n = ⟨1, 0, 0, 0, x⟩ ∧ ∀ c ∈ x, 32 ≤ c ∧ c ≤ 126) ∨ (∃ v : Nat, n = ⟨2, v, 0, 0, []⟩ ∧ v ≤ top) ∨ (∃ y, n = ⟨3, 0, 0, 0, y⟩ ∧ NameOk y) ∨ (∃ y, n = ⟨4, 0, 0, 0, y⟩ ∧ NameOk y)
/-- An operator of a level. -/
def Lev (k : Nat) (o : Int) : Prop := (k = 6 ∧ o = 15) ∨ (k = 5 ∧ o = 14) ∨ (k = 3 ∧ (o = 10 ∨ o = 11 ∨ o = 12)) ∨ (k = 2 ∧ o = 5) ∨ (k = 1 ∧ o = 16)
theorem Lev.binds {k : Nat} {o : Int} (h : Lev k o) : binds o = 7 - k := by
  rcases h with ⟨rfl, rfl⟩ | ⟨rfl, rfl⟩ | ⟨rfl, rfl | rfl | rfl⟩ | ⟨rfl, rfl⟩ | ⟨rfl, rfl⟩ <;> rfl
theorem Lev.ne {k : Nat} {o : Int} (h : Lev k o) : o ≠ 0 ∧ o ≠ 17 ∧ 1 ≤ k ∧ k ≤ 6 ∧ k ≠ 4 := by
  rcases h with ⟨rfl, rfl⟩ | ⟨rfl, rfl⟩ | ⟨rfl, rfl | rfl | rfl⟩ | ⟨rfl, rfl⟩ | ⟨rfl, rfl⟩ <;> decide
/-- Something that may be so deep at a level: in parentheses, if it binds less than it must. -/
def FitOf (I : Nat → Prop) (b k d : Nat) : Prop := if b < 7 - k then ∃ e, d = e + 1 ∧ I e else I d
def Inner : T → Nat → Prop
  | .leaf n, d => LeafOk n ∧ (n.op = 4 → 1 ≤ d)
  | .un o t, d => ∃ e, d = e + 1 ∧ ((o = 13 ∧ FitOf (Inner t) (binds t.op) 4 e) ∨ ((o = 6 ∨ o = 7 ∨ o = 8 ∨ o = 9) ∧ FitOf (Inner t) (binds t.op) 6 e))
  | .bin o a b, d => (o = 17 ∧ ∃ e, d = e + 1 ∧ FitOf (Inner a) (binds a.op) 6 e ∧ FitOf (Inner b) (binds b.op) 6 e) ∨
      (∃ k, Lev k o ∧ FitOf (Inner a) (binds a.op) (if k = 3 then 2 else k) d ∧ FitOf (Inner b) (binds b.op) (k - 1) d)
abbrev Fit (k : Nat) (t : T) (d : Nat) : Prop := FitOf (Inner t) (binds t.op) k d
theorem fitOf_mono {I : Nat → Prop} (hI : ∀ d, I d → I (d + 1)) {b k d : Nat} (h : FitOf I b k d) : FitOf I b k (d + 1) := by
  unfold FitOf at h ⊢
  split at h
  · rename_i hb
    rw [if_pos hb]
    obtain ⟨e, rfl, h⟩ := h
    exact ⟨e + 1, rfl, hI e h⟩
  · rename_i hb
    rw [if_neg hb]
    exact hI d h
theorem inner_mono : ∀ (t : T) (d : Nat), Inner t d → Inner t (d + 1)
  | .leaf _, _, h => ⟨h.1, fun e => Nat.le_succ_of_le (h.2 e)⟩
  | .un _ t, d, h => by
    obtain ⟨e, rfl, h⟩ := h
    refine ⟨e + 1, rfl, ?_⟩
    rcases h with ⟨h1, h2⟩ | ⟨h1, h2⟩
    · exact .inl ⟨h1, fitOf_mono (inner_mono t) h2⟩
    · exact .inr ⟨h1, fitOf_mono (inner_mono t) h2⟩
  | .bin _ a b, d, h => by
    rcases h with ⟨h1, e, rfl, h2, h3⟩ | ⟨k, h1, h2, h3⟩
    · exact .inl ⟨h1, e + 1, rfl, fitOf_mono (inner_mono a) h2, fitOf_mono (inner_mono b) h3⟩
    · exact .inr ⟨k, h1, fitOf_mono (inner_mono a) h2, fitOf_mono (inner_mono b) h3⟩
theorem fit_up {t : T} {k d : Nat} (h : Fit k t d) : Fit (k + 1) t d := by
  unfold Fit FitOf at h ⊢
  split at h
  · rename_i hb
    obtain ⟨e, rfl, h⟩ := h
    split
    · exact ⟨e, rfl, h⟩
    · exact inner_mono t e h
  · rename_i hb
    rw [if_neg (by omega)]
    exact h
theorem binds_pos (o : Int) : 1 ≤ binds o := by
  unfold binds
  repeat (split; omega)
  omega
theorem fit_six {t : T} {d : Nat} : Fit 6 t d ↔ Inner t d := by
  unfold Fit FitOf
  rw [if_neg (by have := binds_pos t.op; omega)]

/-! What the tokens hold. -/
theorem textP_ok : ∀ (n : Nat) (l : List Nat), l.length ≤ n → ∀ t q, textP l = some (t, q) → ∀ c ∈ t, 32 ≤ c ∧ c ≤ 126
  | 0, [], _, t, q, h => by simp [textP] at h
  | _ + 1, [], _, t, q, h => by simp [textP] at h
  | n + 1, c :: r, hn, t, q, h => by
    rw [textP_cons] at h
    by_cases h1 : 32 ≤ c ∧ c ≤ 126
    · rw [if_pos h1] at h
      by_cases h2 : c = 39
      · rw [if_pos h2] at h
        simp at h
        obtain ⟨rfl, rfl⟩ := h
        intro c hc; cases hc
      rw [if_neg h2] at h
      by_cases h3 : c = 92
      · rw [if_pos h3] at h
        cases r with
        | nil => simp at h
        | cons e r =>
          simp only at h
          by_cases h4 : e = 39 ∨ e = 92
          · rw [if_pos h4] at h
            obtain ⟨⟨a, b⟩, hab, h5⟩ := Option.map_eq_some_iff.1 h
            simp at h5
            obtain ⟨rfl, rfl⟩ := h5
            intro c hc
            rcases List.mem_cons.1 hc with rfl | hc
            · omega
            · exact textP_ok n r (by simp at hn; omega) a b hab c hc
          · rw [if_neg h4] at h; cases h
      · rw [if_neg h3] at h
        obtain ⟨⟨a, b⟩, hab, h5⟩ := Option.map_eq_some_iff.1 h
        simp at h5
        obtain ⟨rfl, rfl⟩ := h5
        intro x hx
        rcases List.mem_cons.1 hx with rfl | hx
        · exact h1
        · exact textP_ok n r (by simp at hn; omega) a b hab x hx
    · rw [if_neg h1] at h; cases h
theorem take_all {p : Nat → Bool} : ∀ (l : List Nat), ∀ c ∈ l.takeWhile p, p c = true
  | [], c, hc => by cases hc
  | x :: r, c, hc => by
    by_cases hx : p x = true
    · rw [List.takeWhile_cons, if_pos hx] at hc
      rcases List.mem_cons.1 hc with rfl | hc
      · exact hx
      · exact take_all r c hc
    · rw [List.takeWhile_cons, if_neg hx] at hc; cases hc
def TokOk : Tok → Prop
  | .name y => NameOk y
  | .num n => n ≤ top
  | .text x => ∀ c ∈ x, 32 ≤ c ∧ c ≤ 126
  | _ => True
theorem next_ok {l q : List Nat} {t : Tok} (h : next l = some (t, q)) : TokOk t := by
  unfold next at h
  cases hs : skip l with
  | nil => rw [hs] at h; simp at h; rw [← h.1]; trivial
  | cons c r =>
    rw [hs] at h
    simp only at h
    by_cases h1 : low c = true
    · rw [if_pos h1] at h
      split at h
      · cases h
      · rename_i hl
        simp only [Option.some.injEq, Prod.mk.injEq] at h
        rw [← h.1]
        refine ⟨⟨c, r.takeWhile inName, ?_, h1⟩, take_all _, by omega⟩
        rw [List.takeWhile_cons, if_pos (by unfold inName; rw [h1]; rfl)]
    rw [if_neg h1] at h
    by_cases h2 : dig c = true
    · rw [if_pos h2] at h
      split at h
      · cases h
      · rename_i hl
        simp only [Option.some.injEq, Prod.mk.injEq] at h
        rw [← h.1]
        show _ ≤ top
        omega
    rw [if_neg h2] at h
    by_cases h3 : c = 39
    · rw [if_pos h3] at h
      obtain ⟨⟨a, b⟩, hab, h5⟩ := Option.map_eq_some_iff.1 h
      simp only [Prod.mk.injEq] at h5
      rw [← h5.1]
      exact textP_ok _ r (Nat.le_refl _) a b hab
    rw [if_neg h3] at h
    split at h
    · simp only [Option.some.injEq, Prod.mk.injEq] at h
      rw [← h.1]; trivial
    · split at h
      · simp only [Option.some.injEq, Prod.mk.injEq] at h
        rw [← h.1]; trivial
      · cases h
theorem nameP_ok {l q t : List Nat} (h : nameP l = .ok (t, q)) : NameOk t := by
  unfold nameP at h
  cases hn : next l with
  | none => rw [hn] at h; cases h
  | some x =>
    obtain ⟨k, r⟩ := x
    have := next_ok hn
    rw [hn] at h
    cases k with
    | name y =>
      simp only [Except.ok.injEq, Prod.mk.injEq] at h
      rw [← h.1]; exact this
    | _ => simp at h
theorem operP_lev {k : Nat} {l q : List Nat} {o : Int} (h : operP k l = .ok (o, q)) : o = 0 ∨ Lev k o := by
  unfold operP at h
  split at h
  · simp only [Except.ok.injEq, Prod.mk.injEq] at h; exact .inl h.1.symm
  cases hn : next l with
  | none => rw [hn] at h; cases h
  | some x =>
    obtain ⟨t, r⟩ := x
    rw [hn] at h
    simp only at h
    cases hf : (opsAt k).find? (fun w => isTok t w.1) with
    | none => rw [hf] at h; simp only [Except.ok.injEq, Prod.mk.injEq] at h; exact .inl h.1.symm
    | some w =>
      rw [hf] at h
      simp only [Except.ok.injEq, Prod.mk.injEq] at h
      obtain ⟨rfl, rfl⟩ := h
      have hw := List.mem_of_find?_eq_some hf
      right
      unfold opsAt at hw
      unfold Lev
      split at hw <;> simp at hw
      all_goals (try (rcases hw with rfl | rfl | rfl <;> decide))
      all_goals (subst hw; decide)
theorem fnOp_cases (u : List Nat) : fnOp u = 0 ∨ fnOp u = 4 ∨ fnOp u = 17 ∨ (fnOp u = 6 ∨ fnOp u = 7 ∨ fnOp u = 8 ∨ fnOp u = 9) := by
  unfold fnOp
  repeat (split; simp)
  simp

/-! What is read is a tree. -/
def IsT (k d : Nat) (ns : List Nd) (x : Int) (ns' : List Nd) : Prop := ∃ t, Fit k t d ∧ ns' = ns ++ t.flat ns.length ∧ x = ((ns.length + t.size - 1 : Nat) : Int) ∧ ns'.length ≤ 48
def Reads (f : PS) (k d : Nat) : Prop := ∀ l ns x l' ns', f (l, ns) = .ok (x, (l', ns')) → IsT k d ns x ns'
theorem add_ok {n : Nd} {l : List Nat} {ns : List Nd} {x : Int} {l' : List Nat} {ns' : List Nd} (h : add n (l, ns) = .ok (x, (l', ns'))) : l' = l ∧ x = (ns.length : Int) ∧ ns' = ns ++ [n] ∧ ns.length < 48 := by
  unfold add at h
  simp only at h
  split at h
  · cases h
  · simp only [Except.ok.injEq, Prod.mk.injEq] at h
    obtain ⟨rfl, rfl, rfl⟩ := h
    exact ⟨rfl, rfl, rfl, by omega⟩
theorem leaf_reads {n : Nd} {l : List Nat} {ns : List Nd} {x : Int} {l' : List Nat} {ns' : List Nd} {d : Nat} (hn : LeafOk n) (hd : n.op = 4 → 1 ≤ d) (h : add n (l, ns) = .ok (x, (l', ns'))) : IsT 0 d ns x ns' := by
  obtain ⟨rfl, rfl, rfl, h4⟩ := add_ok h
  refine ⟨.leaf n, ?_, rfl, by simp [T.size], by simp; omega⟩
  have hb : binds (T.leaf n).op = 7 := by
    rcases hn with ⟨x, rfl, _⟩ | ⟨x, rfl, _⟩ | ⟨x, rfl, _⟩ | ⟨x, rfl, _⟩ <;> rfl
  unfold Fit FitOf
  rw [if_neg (by omega)]
  exact ⟨hn, hd⟩
theorem call_reads {inner : Option PS} {d : Nat} (hf : ∀ f, inner = some f → ∃ e, d = e + 1 ∧ Reads f 6 e) {op : Int} (hop : op = 4 ∨ op = 17 ∨ (op = 6 ∨ op = 7 ∨ op = 8 ∨ op = 9)) : Reads (call inner op) 0 d := by
  intro l ns x l' ns' h
  unfold call at h
  simp only at h
  cases h1 : past [40] l with
  | error e => rw [h1] at h; cases h
  | ok l1 =>
  rw [h1] at h
  cases inner with
  | none => cases h
  | some f =>
  obtain ⟨e, rfl, hR⟩ := hf f rfl
  simp only at h
  by_cases h4 : op = 4
  · rw [if_pos h4] at h
    cases h2 : past [36] l1 with
    | error e => rw [h2] at h; cases h
    | ok l2 =>
    rw [h2] at h
    simp only at h
    cases h3 : nameP l2 with
    | error e => rw [h3] at h; cases h
    | ok y =>
    obtain ⟨t, l3⟩ := y
    rw [h3] at h
    simp only at h
    cases h5 : past [41] l3 with
    | error e => rw [h5] at h; cases h
    | ok l4 =>
    rw [h5] at h
    exact leaf_reads (.inr (.inr (.inr ⟨t, rfl, nameP_ok h3⟩))) (fun _ => by omega) h
  rw [if_neg h4] at h
  cases h2 : f (l1, ns) with
  | error e => rw [h2] at h; cases h
  | ok y =>
  obtain ⟨a, l2, n2⟩ := y
  rw [h2] at h
  obtain ⟨ta, fa, rfl, rfl, la⟩ := hR _ _ _ _ _ h2
  simp only at h
  have hpa := ta.size_pos
  by_cases h7 : op = 17
  · rw [if_pos h7] at h
    cases h3 : past [44] l2 with
    | error e => rw [h3] at h; cases h
    | ok l3 =>
    rw [h3] at h
    simp only at h
    cases h5 : f (l3, ns ++ ta.flat ns.length) with
    | error e => rw [h5] at h; cases h
    | ok y =>
    obtain ⟨b, l4, n4⟩ := y
    rw [h5] at h
    obtain ⟨tb, fb, rfl, rfl, lb⟩ := hR _ _ _ _ _ h5
    simp only at h
    cases h6 : past [41] l4 with
    | error e => rw [h6] at h; cases h
    | ok l5 =>
    rw [h6] at h
    have hpb := tb.size_pos
    obtain ⟨rfl, rfl, rfl, h9⟩ := add_ok h
    have e1 : (ns ++ ta.flat ns.length).length = ns.length + ta.size := by rw [List.length_append, T.flat_len]
    refine ⟨.bin 17 ta tb, ?_, ?_, ?_, ?_⟩
    · unfold Fit FitOf
      rw [if_neg (by show ¬ binds 17 < 7 - 0; decide)]
      exact .inl ⟨rfl, e, rfl, fa, fb⟩
    · rw [T.flat, e1, List.append_assoc, List.append_assoc, List.append_assoc]
    · rw [List.length_append, e1, T.flat_len, T.size]; congr 1; omega
    · rw [List.length_append]; simp only [List.length_cons, List.length_nil]; omega
  rw [if_neg h7] at h
  cases h3 : past [41] l2 with
  | error e => rw [h3] at h; cases h
  | ok l3 =>
  rw [h3] at h
  obtain ⟨rfl, rfl, rfl, h9⟩ := add_ok h
  have e1 : (ns ++ ta.flat ns.length).length = ns.length + ta.size := by rw [List.length_append, T.flat_len]
  have hop' : op = 6 ∨ op = 7 ∨ op = 8 ∨ op = 9 := by
    rcases hop with h | h | h
    · exact absurd h h4
    · exact absurd h h7
    · exact h
  refine ⟨.un op ta, ?_, ?_, ?_, ?_⟩
  · unfold Fit FitOf
    rw [if_neg (by show ¬ binds op < 7 - 0; rcases hop' with rfl | rfl | rfl | rfl <;> decide)]
    exact ⟨e, rfl, .inr ⟨hop', fa⟩⟩
  · rw [T.flat, List.append_assoc]
  · rw [e1, T.size]; congr 1
  · rw [List.length_append]; simp only [List.length_cons, List.length_nil]; omega
theorem atom_reads {inner : Option PS} {d : Nat} (hf : ∀ f, inner = some f → ∃ e, d = e + 1 ∧ Reads f 6 e) : Reads (atom inner) 0 d := by
  intro l ns x l' ns' h
  unfold atom at h
  simp only at h
  cases h1 : next l with
  | none => rw [h1] at h; cases h
  | some y =>
  obtain ⟨t, q⟩ := y
  rw [h1] at h
  have hk := next_ok h1
  cases t with
  | fin => cases h
  | text u => exact leaf_reads (.inl ⟨u, rfl, hk⟩) (fun e => absurd e (by show ¬ (1 : Int) = 4; decide)) h
  | num n => exact leaf_reads (.inr (.inl ⟨n, rfl, hk⟩)) (fun e => absurd e (by show ¬ (2 : Int) = 4; decide)) h
  | name u =>
    simp only at h
    by_cases h0 : fnOp u = 0
    · rw [if_pos h0] at h; cases h
    · rw [if_neg h0] at h
      exact call_reads hf (by rcases fnOp_cases u with h | h; exact absurd h h0; exact h) _ _ _ _ _ h
  | sign u =>
    simp only at h
    by_cases h2 : u = [36]
    · rw [if_pos h2] at h
      cases h3 : nameP q with
      | error e => rw [h3] at h; cases h
      | ok y =>
      obtain ⟨t, l3⟩ := y
      rw [h3] at h
      exact leaf_reads (.inr (.inr (.inl ⟨t, rfl, nameP_ok h3⟩))) (fun e => absurd e (by show ¬ (3 : Int) = 4; decide)) h
    rw [if_neg h2] at h
    by_cases h3 : u = [40]
    · rw [if_pos h3] at h
      cases inner with
      | none => cases h
      | some f =>
      obtain ⟨e, rfl, hR⟩ := hf f rfl
      simp only at h
      cases h4 : f (q, ns) with
      | error e => rw [h4] at h; cases h
      | ok y =>
      obtain ⟨a, l2, n2⟩ := y
      rw [h4] at h
      obtain ⟨t, ft, h6, h7, h8⟩ := hR _ _ _ _ _ h4
      simp only at h
      cases h5 : past [41] l2 with
      | error e => rw [h5] at h; cases h
      | ok l3 =>
      rw [h5] at h
      simp only [Except.ok.injEq, Prod.mk.injEq] at h
      obtain ⟨rfl, rfl, rfl⟩ := h
      refine ⟨t, ?_, h6, h7, h8⟩
      have hi := fit_six.1 ft
      unfold Fit FitOf
      split
      · exact ⟨e, rfl, hi⟩
      · exact inner_mono t e hi
    · rw [if_neg h3] at h; cases h
theorem loop_reads {f : PS} {k d : Nat} (hk : 1 ≤ k) (hf : Reads f (k - 1) d) : ∀ (n : Nat) (a : T) (o : List Nd), Fit (if k = 3 then 2 else k) a d → (o ++ a.flat o.length).length ≤ 48 →
    ∀ l x l' ns', loop f k n ((o.length + a.size - 1 : Nat) : Int) (l, o ++ a.flat o.length) = .ok (x, (l', ns')) → IsT k d o x ns'
  | 0, _, _, _, _, _, _, _, _, h => by cases h
  | n + 1, a, o, fa, hlen, l, x, l', ns', h => by
    unfold loop at h
    simp only at h
    cases h1 : operP k l with
    | error e => rw [h1] at h; cases h
    | ok y =>
    obtain ⟨op, q⟩ := y
    rw [h1] at h
    simp only at h
    by_cases h0 : op = 0
    · rw [if_pos h0] at h
      simp only [Except.ok.injEq, Prod.mk.injEq] at h
      obtain ⟨rfl, rfl, rfl⟩ := h
      refine ⟨a, ?_, rfl, rfl, hlen⟩
      by_cases h3 : k = 3
      · rw [if_pos h3] at fa; subst h3; exact fit_up fa
      · rw [if_neg h3] at fa; exact fa
    rw [if_neg h0] at h
    have hlev : Lev k op := by
      rcases operP_lev h1 with h | h
      · exact absurd h h0
      · exact h
    cases h2 : f (q, o ++ a.flat o.length) with
    | error e => rw [h2] at h; cases h
    | ok y =>
    obtain ⟨b, l2, n2⟩ := y
    rw [h2] at h
    obtain ⟨tb, fb, rfl, rfl, lb⟩ := hf _ _ _ _ _ h2
    simp only at h
    have e1 : (o ++ a.flat o.length).length = o.length + a.size := by rw [List.length_append, T.flat_len]
    have hpa := a.size_pos
    have hpb := tb.size_pos
    cases h3 : add ⟨op, 0, ((o.length + a.size - 1 : Nat) : Int), (((o ++ a.flat o.length).length + tb.size - 1 : Nat) : Int), []⟩ (l2, o ++ a.flat o.length ++ tb.flat (o ++ a.flat o.length).length) with
    | error e => rw [h3] at h; cases h
    | ok y =>
    obtain ⟨i, l3, n3⟩ := y
    rw [h3] at h
    obtain ⟨rfl, rfl, rfl, h9⟩ := add_ok h3
    simp only at h
    have hfit : Inner (.bin op a tb) d := .inr ⟨k, hlev, fa, fb⟩
    have hfit2 : Fit k (.bin op a tb) d := by
      unfold Fit FitOf
      rw [if_neg (by show ¬ binds op < 7 - k; rw [hlev.binds]; omega)]
      exact hfit
    have hflat : o ++ a.flat o.length ++ tb.flat (o ++ a.flat o.length).length ++ [⟨op, 0, ((o.length + a.size - 1 : Nat) : Int), (((o ++ a.flat o.length).length + tb.size - 1 : Nat) : Int), []⟩] = o ++ (T.bin op a tb).flat o.length := by
      rw [T.flat, e1, List.append_assoc, List.append_assoc, List.append_assoc]
    have hidx : (((o ++ a.flat o.length ++ tb.flat (o ++ a.flat o.length).length).length : Nat) : Int) = ((o.length + (T.bin op a tb).size - 1 : Nat) : Int) := by
      rw [List.length_append, e1, T.flat_len, T.size]; congr 1; omega
    have hl2 : (o ++ (T.bin op a tb).flat o.length).length ≤ 48 := by
      rw [← hflat, List.length_append]; simp only [List.length_cons, List.length_nil]; omega
    rw [hflat, hidx] at h
    by_cases hk3 : k = 3
    · rw [if_pos hk3] at h
      simp only [Except.ok.injEq, Prod.mk.injEq] at h
      obtain ⟨rfl, rfl, rfl⟩ := h
      exact ⟨_, hfit2, rfl, rfl, hl2⟩
    · rw [if_neg hk3] at h
      exact loop_reads hk hf n _ o (by rw [if_neg hk3]; exact hfit2) hl2 _ _ _ _ h
theorem lvl_reads {inner : Option (Nat → PS)} {d : Nat} (hi : ∀ g, inner = some g → ∃ e, d = e + 1 ∧ ∀ k, k ≤ 6 → Reads (g k) k e) : ∀ k, k ≤ 6 → Reads (lvl inner k) k d
  | 0, _ => by
    unfold lvl
    refine atom_reads fun f hf => ?_
    obtain ⟨g, hg, rfl⟩ := Option.map_eq_some_iff.1 hf
    obtain ⟨e, h1, h2⟩ := hi g hg
    exact ⟨e, h1, h2 6 (by omega)⟩
  | k + 1, hk => by
    have ih := lvl_reads hi k (by omega)
    unfold lvl
    by_cases h4 : k + 1 = 4
    · rw [if_pos h4]
      obtain rfl : k = 3 := by omega
      intro l ns x l' ns' h
      unfold notP at h
      simp only at h
      cases h1 : next l with
      | none => rw [h1] at h; cases h
      | some y =>
      obtain ⟨t, q⟩ := y
      rw [h1] at h
      simp only at h
      by_cases ht : isTok t wNot = true
      · rw [if_pos ht] at h
        cases inner with
        | none => cases h
        | some g =>
        obtain ⟨e, rfl, hg⟩ := hi g rfl
        simp only [Option.map_some] at h
        cases h5 : g 4 (q, ns) with
        | error e => rw [h5] at h; cases h
        | ok y =>
        obtain ⟨a, l2, n2⟩ := y
        rw [h5] at h
        obtain ⟨ta, fa, rfl, rfl, la⟩ := hg 4 (by omega) _ _ _ _ _ h5
        have hpa := ta.size_pos
        obtain ⟨rfl, rfl, rfl, h9⟩ := add_ok h
        have e1 : (ns ++ ta.flat ns.length).length = ns.length + ta.size := by rw [List.length_append, T.flat_len]
        refine ⟨.un 13 ta, ?_, ?_, ?_, ?_⟩
        · unfold Fit FitOf
          rw [if_neg (by show ¬ binds 13 < 7 - 4; decide)]
          exact ⟨e, rfl, .inl ⟨rfl, fa⟩⟩
        · rw [T.flat, List.append_assoc]
        · rw [e1, T.size]; congr 1
        · rw [List.length_append]; simp only [List.length_cons, List.length_nil]; omega
      · rw [if_neg ht] at h
        obtain ⟨t, ft, r⟩ := ih _ _ _ _ _ h
        exact ⟨t, fit_up ft, r⟩
    · rw [if_neg h4]
      intro l ns x l' ns' h
      simp only at h
      cases h1 : lvl inner k (l, ns) with
      | error e => rw [h1] at h; cases h
      | ok y =>
      obtain ⟨a, l2, n2⟩ := y
      rw [h1] at h
      obtain ⟨ta, fa, rfl, rfl, la⟩ := ih _ _ _ _ _ h1
      refine loop_reads (Nat.le_add_left 1 k) (by rw [Nat.add_sub_cancel]; exact ih) 49 ta ns ?_ la _ _ _ _ h
      split
      · obtain rfl : k = 2 := by omega
        exact fa
      · exact fit_up fa
theorem row_reads : ∀ d k, k ≤ 6 → Reads (row d k) k d
  | 0, k, hk => lvl_reads (fun g hg => by cases hg) k hk
  | d + 1, k, hk => lvl_reads (fun g hg => by
      obtain rfl := Option.some.inj hg
      exact ⟨d, rfl, row_reads d⟩) k hk
/-- An expression that was read. -/
theorem exprP_reads {l q : List Nat} {ns : List Nd} (h : exprP l = .ok (ns, q)) : ∃ t, Inner t 16 ∧ ns = t.flat 0 ∧ t.size ≤ 48 := by
  unfold exprP at h
  cases h1 : row 16 6 (l, []) with
  | error e => rw [h1] at h; cases h
  | ok y =>
  obtain ⟨a, l2, n2⟩ := y
  rw [h1] at h
  simp only [Except.ok.injEq, Prod.mk.injEq] at h
  obtain ⟨rfl, rfl⟩ := h
  obtain ⟨t, ft, h2, _, h4⟩ := row_reads 16 6 (by omega) _ _ _ _ _ h1
  refine ⟨t, fit_six.1 ft, h2, ?_⟩
  rw [h2] at h4
  simpa [T.flat_len] using h4
end Go.Proofs.YthhlmalpelgpeaaGreatDoor.Zq

/-
  Rules, plain: a tree as it is printed; its nodes print so.
-/
namespace Go.Proofs.YthhlmalpelgpeaaGreatDoor.Zq

/-- In parentheses, if it binds less than it must. -/
def par (b least : Nat) (s : List Nat) : List Nat := if b < least then 40 :: s ++ [41] else s
def pr : T → List Nat
  | .leaf n => if n.op = 1 then quoted n.text else if n.op = 2 then Jq.decimal n.int else if n.op = 3 then 36 :: n.text else wHas ++ 40 :: 36 :: n.text ++ [41]
  | .un o t => if o = 13 then wNot ++ 32 :: par (binds t.op) 3 (pr t) else called o ++ 40 :: pr t ++ [41]
  | .bin o a b => if o = 17 then wStarts ++ 40 :: pr a ++ 44 :: 32 :: pr b ++ [41]
      else par (binds a.op) (if binds o = 4 then 5 else binds o) (pr a) ++ 32 :: between o ++ 32 :: par (binds b.op) (binds o + 1) (pr b)
theorem flat_last : ∀ (t : T) (i : Nat), ∃ A n, t.flat i = A ++ [n] ∧ n.op = t.op ∧ A.length + 1 = t.size
  | .leaf n, _ => ⟨[], n, rfl, rfl, rfl⟩
  | .un o t, i => ⟨t.flat i, _, rfl, rfl, by rw [T.flat_len]; rfl⟩
  | .bin o a b, i => ⟨a.flat i ++ b.flat (i + a.size), _, rfl, rfl, by rw [List.length_append, T.flat_len, T.flat_len]; rfl⟩
theorem at_len {A B : List Nd} {n : Nd} {i : Nat} (h : A.length = i) : (A ++ n :: B)[i]? = some n := by subst h; simp
theorem op_at (t : T) (p q : List Nd) : ((p ++ t.flat p.length ++ q)[p.length + t.size - 1]?.map (binds ·.op)).getD 0 = binds t.op := by
  obtain ⟨A, n, h1, h2, h3⟩ := flat_last t p.length
  rw [h1, show p ++ (A ++ [n]) ++ q = (p ++ A) ++ n :: q by simp, at_len (by rw [List.length_append]; omega)]
  simp [h2]
theorem ahead_some {i k : Nat} (h : k < i) : ahead i (k : Int) = some k := by
  unfold ahead
  rw [if_pos (by omega)]
  simp
theorem node_flat : ∀ (t : T) (d : Nat), Inner t d → ∀ (p q : List Nd) (D : Nat), t.size < D → node (p ++ t.flat p.length ++ q) D (p.length + t.size - 1) = pr t
  | .leaf n, d, h, p, q, 0, hD => absurd hD (Nat.not_lt_zero _)
  | .leaf n, d, h, p, q, D + 1, hD => by
    rw [node, show p ++ (T.leaf n).flat p.length ++ q = p ++ n :: q by simp [T.flat], at_len (by simp [T.size]), pr]
    rcases h.1 with ⟨x, rfl, _⟩ | ⟨x, rfl, _⟩ | ⟨x, rfl, _⟩ | ⟨x, rfl, _⟩ <;> rfl
  | .un o t, d, h, p, q, 0, hD => absurd hD (Nat.not_lt_zero _)
  | .un o t, d, h, p, q, D + 1, hD => by
    obtain ⟨e, rfl, h⟩ := h
    have hp := t.size_pos
    have hI : ∃ e, Inner t e := by
      have : ∀ k, FitOf (Inner t) (binds t.op) k e → ∃ e, Inner t e := fun k h => by
        unfold FitOf at h
        split at h
        · obtain ⟨e, _, h⟩ := h; exact ⟨e, h⟩
        · exact ⟨_, h⟩
      rcases h with ⟨_, h⟩ | ⟨_, h⟩ <;> exact this _ h
    obtain ⟨e', hI⟩ := hI
    have ih := node_flat t e' hI p ([⟨o, 0, ((p.length + t.size - 1 : Nat) : Int), 0, []⟩] ++ q) D (by simp [T.size] at hD; omega)
    have hop := op_at t p ([⟨o, 0, ((p.length + t.size - 1 : Nat) : Int), 0, []⟩] ++ q)
    have hl : p ++ (T.un o t).flat p.length ++ q = p ++ t.flat p.length ++ ([⟨o, 0, ((p.length + t.size - 1 : Nat) : Int), 0, []⟩] ++ q) := by simp [T.flat]
    have hx : p.length + (T.un o t).size - 1 = p.length + t.size := by simp [T.size]
    have hat : (p ++ t.flat p.length ++ ([⟨o, 0, ((p.length + t.size - 1 : Nat) : Int), 0, []⟩] ++ q))[p.length + t.size]? = some ⟨o, 0, ((p.length + t.size - 1 : Nat) : Int), 0, []⟩ := at_len (by rw [List.length_append, T.flat_len])
    rw [hl, hx, node, hat]
    simp only
    rw [ahead_some (by omega), pr]
    simp only
    rcases h with ⟨rfl, _⟩ | ⟨h, _⟩
    · rw [if_neg (by decide), if_neg (by decide), if_neg (by decide), if_neg (by decide), if_pos rfl, if_pos rfl, hop, ih]
      rfl
    · have hc : called o ≠ [] := by rcases h with rfl | rfl | rfl | rfl <;> decide
      rw [if_neg (by rcases h with rfl | rfl | rfl | rfl <;> decide), if_neg (by rcases h with rfl | rfl | rfl | rfl <;> decide), if_neg (by rcases h with rfl | rfl | rfl | rfl <;> decide), if_neg (by rcases h with rfl | rfl | rfl | rfl <;> decide), if_neg (by rcases h with rfl | rfl | rfl | rfl <;> decide), if_neg (by rcases h with rfl | rfl | rfl | rfl <;> decide), if_pos hc, if_neg (by rcases h with rfl | rfl | rfl | rfl <;> decide), ih]
  | .bin o a b, d, h, p, q, 0, hD => absurd hD (Nat.not_lt_zero _)
  | .bin o a b, d, h, p, q, D + 1, hD => by
    have hpa := a.size_pos
    have hpb := b.size_pos
    have hf : ∀ (t : T) k e, Fit k t e → ∃ e, Inner t e := fun t k e h => by
      unfold Fit FitOf at h
      split at h
      · obtain ⟨e, _, h⟩ := h; exact ⟨e, h⟩
      · exact ⟨_, h⟩
    have hI : (∃ e, Inner a e) ∧ (∃ e, Inner b e) ∧ (o = 17 ∨ ∃ k, Lev k o) := by
      rcases h with ⟨h1, e, _, h2, h3⟩ | ⟨k, h1, h2, h3⟩
      · exact ⟨hf _ _ _ h2, hf _ _ _ h3, .inl h1⟩
      · exact ⟨hf _ _ _ h2, hf _ _ _ h3, .inr ⟨k, h1⟩⟩
    obtain ⟨⟨ea, ha⟩, ⟨eb, hb⟩, ho⟩ := hI
    obtain ⟨N, hN⟩ : ∃ N : Nd, N = ⟨o, 0, ((p.length + a.size - 1 : Nat) : Int), ((p.length + a.size + b.size - 1 : Nat) : Int), []⟩ := ⟨_, rfl⟩
    have hpl : (p ++ a.flat p.length).length = p.length + a.size := by rw [List.length_append, T.flat_len]
    have hs : a.size < D ∧ b.size < D := by simp [T.size] at hD; omega
    have ia := node_flat a ea ha p (b.flat (p.length + a.size) ++ [N] ++ q) D hs.1
    have ib := node_flat b eb hb (p ++ a.flat p.length) ([N] ++ q) D hs.2
    have oa := op_at a p (b.flat (p.length + a.size) ++ [N] ++ q)
    have ob := op_at b (p ++ a.flat p.length) ([N] ++ q)
    rw [hpl] at ib ob
    have hl : p ++ (T.bin o a b).flat p.length ++ q = p ++ a.flat p.length ++ (b.flat (p.length + a.size) ++ [N] ++ q) := by simp [T.flat, hN]
    have hl2 : p ++ a.flat p.length ++ b.flat (p.length + a.size) ++ ([N] ++ q) = p ++ a.flat p.length ++ (b.flat (p.length + a.size) ++ [N] ++ q) := by simp
    rw [hl2] at ib ob
    have hx : p.length + (T.bin o a b).size - 1 = p.length + a.size + b.size := by simp [T.size]; omega
    have hat : (p ++ a.flat p.length ++ (b.flat (p.length + a.size) ++ [N] ++ q))[p.length + a.size + b.size]? = some N := by
      rw [← hl2]
      exact at_len (by rw [List.length_append, hpl, T.flat_len])
    rw [hl, hx, node, hat]
    subst hN
    simp only
    rw [ahead_some (i := p.length + a.size + b.size) (k := p.length + a.size - 1) (by omega), ahead_some (i := p.length + a.size + b.size) (k := p.length + a.size + b.size - 1) (by omega), pr]
    simp only
    rcases ho with rfl | ⟨k, hk⟩
    · rw [if_neg (by decide), if_neg (by decide), if_neg (by decide), if_neg (by decide), if_neg (by decide), if_pos rfl, if_pos rfl, ia, ib]
    · have ho : o = 15 ∨ o = 14 ∨ o = 10 ∨ o = 11 ∨ o = 12 ∨ o = 5 ∨ o = 16 := by
        rcases hk with ⟨_, h⟩ | ⟨_, h⟩ | ⟨_, h | h | h⟩ | ⟨_, h⟩ | ⟨_, h⟩ <;> simp [h]
      have hne : ¬ o = 1 ∧ ¬ o = 2 ∧ ¬ o = 3 ∧ ¬ o = 4 ∧ ¬ o = 13 ∧ ¬ o = 17 ∧ ¬ called o ≠ [] ∧ between o ≠ [] := by
        rcases ho with rfl | rfl | rfl | rfl | rfl | rfl | rfl <;> decide
      obtain ⟨n1, n2, n3, n4, n5, n6, n7, n8⟩ := hne
      rw [if_neg n1, if_neg n2, if_neg n3, if_neg n4, if_neg n5, if_neg n6, if_neg n7, if_pos n8, if_neg n6, oa, ob, ia, ib]
      rfl
/-- An expression that was read prints as its tree. -/
theorem written_tree {t : T} {d : Nat} (h : Inner t d) (hs : t.size ≤ 48) : written (t.flat 0) = pr t := by
  have hp := t.size_pos
  unfold written
  rw [if_neg (by intro e; have := T.flat_len t 0; rw [e] at this; simp at this; omega)]
  have := node_flat t d h [] [] 64 (by omega)
  simp only [List.nil_append, List.append_nil, List.length_nil, Nat.zero_add] at this
  rw [T.flat_len]
  exact this
end Go.Proofs.YthhlmalpelgpeaaGreatDoor.Zq

/-
  Rules, plain: what is printed of a tree is read as its nodes.
-/
namespace Go.Proofs.YthhlmalpelgpeaaGreatDoor.Zq

/-- A text that no name goes on in. -/
def Out (z : List Nat) : Prop := ∀ c r, z = c :: r → inName c = false
theorem out_cons {c : Nat} {r : List Nat} (h : inName c = false) : Out (c :: r) := fun c' r' e => by injection e with e _; rw [← e]; exact h
theorem out_nil : Out [] := fun _ _ h => by cases h
theorem take_out {p : Nat → Bool} {z : List Nat} (hz : ∀ c r, z = c :: r → p c = false) : ∀ y : List Nat, (∀ c ∈ y, p c = true) → (y ++ z).takeWhile p = y ∧ (y ++ z).dropWhile p = z
  | [], _ => by
    cases z with
    | nil => exact ⟨rfl, rfl⟩
    | cons c r => simp [hz c r rfl]
  | c :: y, h => by
    have := take_out hz y (fun x hx => h x (List.mem_cons_of_mem _ hx))
    simp [h c (by simp), this.1, this.2]
theorem low_not {c : Nat} (h : low c = true) : blank c = false ∧ dig c = false ∧ inName c = true := by
  unfold low at h
  simp at h
  unfold blank dig inName low dig
  simp
  omega
theorem dig_not {c : Nat} (h : dig c = true) : blank c = false ∧ low c = false ∧ inName c = true := by
  unfold dig at h
  simp at h
  unfold blank inName low dig
  simp
  omega
theorem skip_cons {c : Nat} {r : List Nat} (h : blank c = false) : skip (c :: r) = c :: r := by
  unfold skip
  rw [List.dropWhile_cons, if_neg (by rw [h]; exact Bool.false_ne_true)]
theorem next_name {y z : List Nat} (hy : NameOk y) (hz : Out z) : next (y ++ z) = some (.name y, z) := by
  obtain ⟨⟨c, r, rfl, hc⟩, h2, h3⟩ := hy
  obtain ⟨t1, t2⟩ := take_out (p := inName) hz (c :: r) h2
  rw [List.cons_append] at t1 t2 ⊢
  unfold next
  rw [skip_cons (low_not hc).1]
  simp only
  rw [if_pos hc, t1, t2, if_neg (by omega)]
theorem next_num {v : Nat} {z : List Nat} (hv : v ≤ top) (hz : Out z) : next (Jq.digits v ++ z) = some (.num v, z) := by
  obtain ⟨h1, h2, h3, h4⟩ := Jq.digits_of v
  have hd : ∀ c ∈ Jq.digits v, dig c = true := fun c hc => h1 c hc
  have hz' : ∀ c r, z = c :: r → dig c = false := fun c r e => by
    cases hb : dig c with
    | false => rfl
    | true => have := hz c r e; rw [(dig_not hb).2.2] at this; cases this
  obtain ⟨t1, t2⟩ := take_out (p := dig) hz' (Jq.digits v) hd
  cases hD : Jq.digits v with
  | nil => exact absurd hD h3
  | cons c r =>
    rw [hD] at t1 t2 hd h2 h4
    have hc := hd c (by simp)
    rw [List.cons_append] at t1 t2 ⊢
    unfold next
    rw [skip_cons (dig_not hc).1]
    simp only
    rw [if_neg (by rw [(dig_not hc).2.1]; exact Bool.false_ne_true), if_pos hc, t1, t2, h2, if_neg]
    rintro (h | ⟨rfl, h⟩)
    · omega
    · have := h4 rfl
      omega
theorem textP_quoted (z : List Nat) : ∀ x : List Nat, (∀ c ∈ x, 32 ≤ c ∧ c ≤ 126) → textP ((x.flatMap fun c => if c = 39 ∨ c = 92 then [92, c] else [c]) ++ 39 :: z) = some (x, z)
  | [], _ => by
    rw [List.flatMap_nil, List.nil_append, textP_cons]
    rfl
  | c :: x, h => by
    have ih := textP_quoted z x (fun y hy => h y (List.mem_cons_of_mem _ hy))
    have hc := h c (by simp)
    rw [List.flatMap_cons, List.append_assoc]
    by_cases hq : c = 39 ∨ c = 92
    · rw [if_pos hq]
      show textP (92 :: c :: (x.flatMap (fun c => if c = 39 ∨ c = 92 then [92, c] else [c]) ++ 39 :: z)) = _
      rw [textP_cons, if_pos (by omega), if_neg (by omega), if_pos rfl]
      simp only
      rw [if_pos hq, ih]
      rfl
    · rw [if_neg hq]
      show textP (c :: (x.flatMap (fun c => if c = 39 ∨ c = 92 then [92, c] else [c]) ++ 39 :: z)) = _
      rw [textP_cons, if_pos hc, if_neg (fun e => hq (.inl e)), if_neg (fun e => hq (.inr e)), ih]
      rfl
theorem next_text {x z : List Nat} (hx : ∀ c ∈ x, 32 ≤ c ∧ c ≤ 126) : next (quoted x ++ z) = some (.text x, z) := by
  have := textP_quoted z x hx
  unfold quoted
  rw [List.cons_append, List.cons_append, List.append_assoc, List.singleton_append]
  unfold next
  rw [skip_cons (by rfl)]
  simp only
  rw [if_neg (by decide), if_neg (by decide), if_pos trivial, this]
  rfl
theorem next_space (l : List Nat) : next (32 :: l) = next l := rfl
theorem past_space (s l : List Nat) : past s (32 :: l) = past s l := rfl
theorem past_sign {c : Nat} (h : c = 40 ∨ c = 41 ∨ c = 44 ∨ c = 59 ∨ c = 36) (z : List Nat) : past [c] (c :: z) = .ok z := by
  rcases h with rfl | rfl | rfl | rfl | rfl <;> rfl
theorem past_name {y z : List Nat} (hy : NameOk y) (hz : Out z) : past y (y ++ z) = .ok z := by
  unfold past
  rw [next_name hy hz]
  simp [isTok]
theorem nameP_name {y z : List Nat} (hy : NameOk y) (hz : Out z) : nameP (y ++ z) = .ok (y, z) := by
  unfold nameP
  rw [next_name hy hz]
/-- No operator of a level up to k stands next. -/
def Stop (k : Nat) (z : List Nat) : Prop := ∀ j, 1 ≤ j → j ≤ k → operP j z = .ok (0, z)
theorem Stop.less {k j : Nat} {z : List Nat} (h : Stop k z) (hj : j ≤ k) : Stop j z := fun i h1 h2 => h i h1 (by omega)
theorem stop_of {z : List Nat} (h1 : operP 1 z = .ok (0, z)) (h2 : operP 2 z = .ok (0, z)) (h3 : operP 3 z = .ok (0, z)) (h5 : operP 5 z = .ok (0, z)) (h6 : operP 6 z = .ok (0, z)) : Stop 6 z := by
  intro j a b
  have : j = 1 ∨ j = 2 ∨ j = 3 ∨ j = 4 ∨ j = 5 ∨ j = 6 := by omega
  rcases this with rfl | rfl | rfl | rfl | rfl | rfl
  · exact h1
  · exact h2
  · exact h3
  · rfl
  · exact h5
  · exact h6
theorem stop_close (z : List Nat) : Stop 6 (41 :: z) := stop_of rfl rfl rfl rfl rfl
theorem stop_comma (z : List Nat) : Stop 6 (44 :: z) := stop_of rfl rfl rfl rfl rfl
theorem stop_semi (z : List Nat) : Stop 6 (59 :: z) := stop_of rfl rfl rfl rfl rfl
theorem stop_nil : Stop 6 [] := stop_of rfl rfl rfl rfl rfl
theorem stop_when (z : List Nat) : Stop 6 (32 :: (wWhen ++ 32 :: z)) := stop_of rfl rfl rfl rfl rfl
theorem stop_lev {k : Nat} {o : Int} (h : Lev k o) (z : List Nat) : Stop (k - 1) (32 :: (between o ++ 32 :: z)) ∧ operP k (32 :: (between o ++ 32 :: z)) = .ok (o, 32 :: z) := by
  have go : ∀ k', (∀ j, 1 ≤ j → j ≤ k' → j = 1 ∨ j = 2 ∨ j = 3 ∨ j = 4 ∨ j = 5 ∨ j = 6) → True := fun _ _ => trivial
  rcases h with ⟨rfl, rfl⟩ | ⟨rfl, rfl⟩ | ⟨rfl, rfl | rfl | rfl⟩ | ⟨rfl, rfl⟩ | ⟨rfl, rfl⟩
  · refine ⟨fun j a b => ?_, rfl⟩
    have : j = 1 ∨ j = 2 ∨ j = 3 ∨ j = 4 ∨ j = 5 := by omega
    rcases this with rfl | rfl | rfl | rfl | rfl <;> rfl
  · refine ⟨fun j a b => ?_, rfl⟩
    have : j = 1 ∨ j = 2 ∨ j = 3 ∨ j = 4 := by omega
    rcases this with rfl | rfl | rfl | rfl <;> rfl
  · refine ⟨fun j a b => ?_, rfl⟩
    have : j = 1 ∨ j = 2 := by omega
    rcases this with rfl | rfl <;> rfl
  · refine ⟨fun j a b => ?_, rfl⟩
    have : j = 1 ∨ j = 2 := by omega
    rcases this with rfl | rfl <;> rfl
  · refine ⟨fun j a b => ?_, rfl⟩
    have : j = 1 ∨ j = 2 := by omega
    rcases this with rfl | rfl <;> rfl
  · refine ⟨fun j a b => ?_, rfl⟩
    obtain rfl : j = 1 := by omega
    rfl
  · refine ⟨fun j a b => ?_, rfl⟩
    omega
/-- What may be opened inside. -/
def inn : Nat → Option (Nat → PS)
  | 0 => none
  | e + 1 => some (row e)
theorem row_eq (d k : Nat) : row d k = lvl (inn d) k := by cases d <;> rfl
theorem row_zero (d : Nat) : row d 0 = atom ((inn d).map (· 6)) := by rw [row_eq, lvl]
theorem row_not (d : Nat) : row d 4 = notP ((inn d).map (· 4)) (row d 3) := by rw [row_eq, row_eq, lvl, if_pos rfl]
theorem row_loop (d k : Nat) (h : k + 1 ≠ 4) : row d (k + 1) = fun s => match row d k s with
    | .error e => .error e
    | .ok (left, s2) => loop (row d k) (k + 1) 49 left s2 := by
  rw [row_eq, row_eq, lvl, if_neg h]
  rfl
theorem row_space (d : Nat) : ∀ (k : Nat) (l : List Nat) (ns : List Nd), row d k (32 :: l, ns) = row d k (l, ns)
  | 0, l, ns => by rw [row_zero]; unfold atom; simp only; rw [next_space]
  | k + 1, l, ns => by
    have ih := row_space d k l ns
    by_cases h : k + 1 = 4
    · obtain rfl : k = 3 := by omega
      rw [row_not]
      unfold notP
      simp only
      rw [next_space, ih]
    · rw [row_loop d k h]
      simp only
      rw [ih]
def idx (ns : List Nd) (t : T) : Int := ((ns.length + t.size - 1 : Nat) : Int)
/-- What is printed so is read as the tree. -/
def Back (k d : Nat) (s : List Nat) (t : T) : Prop := ∀ z ns, Out z → Stop k z → ns.length + t.size ≤ 48 → row d k (s ++ z, ns) = .ok (idx ns t, (z, ns ++ t.flat ns.length))
/-- What is printed so is read, and the loop of a level goes on behind it. -/
def Cont (k d : Nat) (s : List Nat) (t : T) : Prop := ∃ m, m < t.size ∧ ∀ z ns, Out z → Stop (k - 1) z → ns.length + t.size ≤ 48 →
    (match row d (k - 1) (s ++ z, ns) with
    | .error e => Except.error e
    | .ok (left, s2) => loop (row d (k - 1)) k 49 left s2) = loop (row d (k - 1)) k (49 - m) (idx ns t) (z, ns ++ t.flat ns.length)
theorem add_to {n : Nd} {l : List Nat} {ns : List Nd} (h : ns.length < 48) : add n (l, ns) = .ok ((ns.length : Int), (l, ns ++ [n])) := by
  unfold add
  simp only
  rw [if_neg (by omega)]
theorem par_six (o : Int) (s : List Nat) : par (binds o) 1 s = s := by
  unfold par
  rw [if_neg (by have := binds_pos o; omega)]
/-- First words. -/
theorem nameOk_words : NameOk wHas ∧ NameOk wStarts ∧ NameOk wNot ∧ NameOk wWhen ∧ NameOk wDeny ∧ NameOk wLower ∧ NameOk wFirst ∧ NameOk wHead ∧ NameOk wTail := by
  refine ⟨?_, ?_, ?_, ?_, ?_, ?_, ?_, ?_, ?_⟩ <;> exact ⟨⟨_, _, rfl, by decide⟩, by decide, by decide⟩
theorem called_ok {o : Int} (h : o = 6 ∨ o = 7 ∨ o = 8 ∨ o = 9) : NameOk (called o) ∧ fnOp (called o) = o ∧ called o ≠ wNot := by
  obtain ⟨_, _, _, _, _, a, b, c, d⟩ := nameOk_words
  rcases h with rfl | rfl | rfl | rfl
  · exact ⟨a, by decide, by decide⟩
  · exact ⟨b, by decide, by decide⟩
  · exact ⟨c, by decide, by decide⟩
  · exact ⟨d, by decide, by decide⟩
end Go.Proofs.YthhlmalpelgpeaaGreatDoor.Zq
