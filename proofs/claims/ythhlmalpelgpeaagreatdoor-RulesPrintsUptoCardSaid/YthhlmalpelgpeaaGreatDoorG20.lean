/-
  G20: ZSh ZSh2 ZSh3 ZRg, side by side.
-/
import Derived.Test.YthhlmalpelgpeaaGreatDoorG17
import Derived.Test.YthhlmalpelgpeaaGreatDoorG18
import Derived.Test.YthhlmalpelgpeaaGreatDoorG19

/-
  What is read holds no text longer than what it was read from.
-/
namespace Go.Proofs.YthhlmalpelgpeaaGreatDoor.Zq

theorem textP_len : ∀ (n : Nat) (l : List Nat), l.length ≤ n → ∀ t q, textP l = some (t, q) → t.length ≤ l.length
  | 0, [], _, t, q, h => by simp [textP] at h
  | _ + 1, [], _, t, q, h => by simp [textP] at h
  | n + 1, c :: r, hn, t, q, h => by
    rw [textP_cons] at h
    by_cases h1 : 32 ≤ c ∧ c ≤ 126
    · rw [if_pos h1] at h
      by_cases h2 : c = 39
      · rw [if_pos h2] at h
        simp at h
        obtain ⟨rfl, rfl⟩ := h
        simp
      rw [if_neg h2] at h
      by_cases h3 : c = 92
      · rw [if_pos h3] at h
        cases r with
        | nil => simp at h
        | cons e r =>
          simp only at h
          by_cases h4 : e = 39 ∨ e = 92
          · rw [if_pos h4] at h
            obtain ⟨⟨a, b⟩, hab, h5⟩ := Option.map_eq_some_iff.1 h
            simp at h5
            obtain ⟨rfl, rfl⟩ := h5
            have := textP_len n r (by simp at hn; omega) a b hab
            simp
            omega
          · rw [if_neg h4] at h; cases h
      · rw [if_neg h3] at h
        obtain ⟨⟨a, b⟩, hab, h5⟩ := Option.map_eq_some_iff.1 h
        simp at h5
        obtain ⟨rfl, rfl⟩ := h5
        have := textP_len n r (by simp at hn; omega) a b hab
        simp
        omega
    · rw [if_neg h1] at h; cases h
theorem next_short {l t q : List Nat} (h : next l = some (.text t, q)) : t.length ≤ l.length := by
  have hsk := (skip_suffix l).length_le
  unfold next at h
  cases hs : skip l with
  | nil => rw [hs] at h; simp at h
  | cons c r =>
    rw [hs] at h hsk
    simp only at h
    repeat' split at h
    all_goals first | (cases h; done) | (simp at h; done) | skip
    all_goals
      obtain ⟨⟨a, b⟩, hab, h5⟩ := Option.map_eq_some_iff.1 h
      simp at h5
      obtain ⟨rfl, rfl⟩ := h5
      have := textP_len _ r (Nat.le_refl _) _ _ hab
      simp at hsk
      omega
end Go.Proofs.YthhlmalpelgpeaaGreatDoor.Zq

/-
  No node that is read holds a text longer than 4096.
-/
namespace Go.Proofs.YthhlmalpelgpeaaGreatDoor.Zq

def Sh (ns : List Nd) : Prop := ∀ n ∈ ns, n.text.length ≤ 4096
def K (f : PS) : Prop := ∀ s x s', f s = .ok (x, s') → s.1.length ≤ 4096 → Sh s.2 → Sh s'.2 ∧ s'.1.length ≤ 4096
theorem K.add {n : Nd} {s : St} {x : Int} {s' : St} (h : add n s = .ok (x, s')) (hl : s.1.length ≤ 4096) (hs : Sh s.2) (hn : n.text.length ≤ 4096) : Sh s'.2 ∧ s'.1.length ≤ 4096 := by
  obtain ⟨l, ns⟩ := s
  obtain ⟨l', ns'⟩ := s'
  obtain ⟨rfl, _, rfl, _⟩ := add_ok h
  refine ⟨fun m hm => ?_, hl⟩
  rcases List.mem_append.1 hm with hm | hm
  · exact hs m hm
  · rw [List.mem_singleton.1 hm]; exact hn
theorem nextK_len {l q : List Nat} {t : Tok} (h : next l = some (t, q)) (hl : l.length ≤ 4096) : q.length ≤ 4096 := Nat.le_trans (next_more h).1.length_le hl
theorem pastK_len {s l q : List Nat} (h : past s l = .ok q) (hl : l.length ≤ 4096) : q.length ≤ 4096 := Nat.le_trans (past_more h).1.length_le hl
theorem nameP_len {l q t : List Nat} (h : nameP l = .ok (t, q)) (hl : l.length ≤ 4096) : q.length ≤ 4096 ∧ t.length ≤ 4096 := ⟨Nat.le_trans (nameP_more h).1.length_le hl, by have := (nameP_ok h).2.2; omega⟩
theorem operP_len {k : Nat} {l q : List Nat} {op : Int} (h : operP k l = .ok (op, q)) (hl : l.length ≤ 4096) : q.length ≤ 4096 := Nat.le_trans (operP_more h).1.length_le hl
theorem call_K {inner : Option PS} (hf : ∀ f, inner = some f → K f) (op : Int) : K (call inner op) := by
  intro s x s' h hl hs
  unfold call at h
  cases h1 : past [40] s.1 with
  | error e => rw [h1] at h; cases h
  | ok l1 =>
  rw [h1] at h
  have g1 := pastK_len h1 hl
  cases inner with
  | none => cases h
  | some f =>
  have hK := hf f rfl
  simp only at h
  by_cases h4 : op = 4
  · rw [if_pos h4] at h
    cases h2 : past [36] l1 with
    | error e => rw [h2] at h; cases h
    | ok l2 =>
    rw [h2] at h
    simp only at h
    cases h3 : nameP l2 with
    | error e => rw [h3] at h; cases h
    | ok y =>
    obtain ⟨t, l3⟩ := y
    rw [h3] at h
    simp only at h
    obtain ⟨g3, g4⟩ := nameP_len h3 (pastK_len h2 g1)
    cases h5 : past [41] l3 with
    | error e => rw [h5] at h; cases h
    | ok l4 =>
    rw [h5] at h
    exact K.add h (pastK_len h5 g3) hs g4
  · rw [if_neg h4] at h
    cases h2 : f (l1, s.2) with
    | error e => rw [h2] at h; cases h
    | ok y =>
    obtain ⟨a, s2⟩ := y
    rw [h2] at h
    simp only at h
    obtain ⟨k1, k2⟩ := hK _ _ _ h2 g1 hs
    by_cases h7 : op = 17
    · rw [if_pos h7] at h
      cases h3 : past [44] s2.1 with
      | error e => rw [h3] at h; cases h
      | ok l3 =>
      rw [h3] at h
      simp only at h
      cases h5 : f (l3, s2.2) with
      | error e => rw [h5] at h; cases h
      | ok y =>
      obtain ⟨b, s4⟩ := y
      rw [h5] at h
      simp only at h
      obtain ⟨k3, k4⟩ := hK _ _ _ h5 (pastK_len h3 k2) k1
      cases h6 : past [41] s4.1 with
      | error e => rw [h6] at h; cases h
      | ok l5 =>
      rw [h6] at h
      exact K.add h (pastK_len h6 k4) k3 (Nat.zero_le _)
    · rw [if_neg h7] at h
      cases h3 : past [41] s2.1 with
      | error e => rw [h3] at h; cases h
      | ok l3 =>
      rw [h3] at h
      exact K.add h (pastK_len h3 k2) k1 (Nat.zero_le _)
theorem atom_K {inner : Option PS} (hf : ∀ f, inner = some f → K f) : K (atom inner) := by
  intro s x s' h hl hs
  unfold atom at h
  cases h1 : next s.1 with
  | none => rw [h1] at h; cases h
  | some y =>
  obtain ⟨t, q⟩ := y
  rw [h1] at h
  have g1 := nextK_len h1 hl
  cases t with
  | text z => exact K.add h g1 hs (Nat.le_trans (next_short h1) hl)
  | num n => exact K.add h g1 hs (Nat.zero_le _)
  | fin => cases h
  | name z =>
    simp only at h
    split at h
    · cases h
    · exact call_K hf _ _ _ _ h g1 hs
  | sign z =>
    simp only at h
    split at h
    · cases h3 : nameP q with
      | error e => rw [h3] at h; cases h
      | ok y =>
      obtain ⟨t, l3⟩ := y
      rw [h3] at h
      obtain ⟨g3, g4⟩ := nameP_len h3 g1
      exact K.add h g3 hs g4
    split at h
    · cases inner with
      | none => cases h
      | some f =>
      simp only at h
      cases h2 : f (q, s.2) with
      | error e => rw [h2] at h; cases h
      | ok y =>
      obtain ⟨a, s2⟩ := y
      rw [h2] at h
      simp only at h
      obtain ⟨k1, k2⟩ := hf f rfl _ _ _ h2 g1 hs
      cases h3 : past [41] s2.1 with
      | error e => rw [h3] at h; cases h
      | ok l3 =>
      rw [h3] at h
      simp only [Except.ok.injEq, Prod.mk.injEq] at h
      obtain ⟨_, rfl⟩ := h
      exact ⟨k1, pastK_len h3 k2⟩
    · cases h
theorem loop_K {f : PS} (hf : K f) (k : Nat) : ∀ (n : Nat) (left : Int), K (loop f k n left)
  | 0, left => fun s x s' h => by cases h
  | n + 1, left => by
    intro s x s' h hl hs
    unfold loop at h
    cases h1 : operP k s.1 with
    | error e => rw [h1] at h; cases h
    | ok y =>
    obtain ⟨op, q⟩ := y
    rw [h1] at h
    have g1 := operP_len h1 hl
    simp only at h
    split at h
    · simp only [Except.ok.injEq, Prod.mk.injEq] at h
      obtain ⟨_, rfl⟩ := h
      exact ⟨hs, g1⟩
    cases h2 : f (q, s.2) with
    | error e => rw [h2] at h; cases h
    | ok y =>
    obtain ⟨a, s2⟩ := y
    rw [h2] at h
    simp only at h
    obtain ⟨k1, k2⟩ := hf _ _ _ h2 g1 hs
    cases h3 : add ⟨op, 0, left, a, []⟩ s2 with
    | error e => rw [h3] at h; cases h
    | ok y =>
    obtain ⟨i, s3⟩ := y
    rw [h3] at h
    simp only at h
    obtain ⟨k3, k4⟩ := K.add h3 k2 k1 (Nat.zero_le _)
    split at h
    · simp only [Except.ok.injEq, Prod.mk.injEq] at h
      obtain ⟨_, rfl⟩ := h
      exact ⟨k3, k4⟩
    · exact loop_K hf k n i _ _ _ h k4 k3
theorem notP_K {inner : Option PS} {f : PS} (hi : ∀ g, inner = some g → K g) (hf : K f) : K (notP inner f) := by
  intro s x s' h hl hs
  unfold notP at h
  cases h1 : next s.1 with
  | none => rw [h1] at h; cases h
  | some y =>
  obtain ⟨t, q⟩ := y
  rw [h1] at h
  have g1 := nextK_len h1 hl
  simp only at h
  split at h
  · cases inner with
    | none => cases h
    | some g =>
    simp only at h
    cases h2 : g (q, s.2) with
    | error e => rw [h2] at h; cases h
    | ok y =>
    obtain ⟨a, s2⟩ := y
    rw [h2] at h
    obtain ⟨k1, k2⟩ := hi g rfl _ _ _ h2 g1 hs
    exact K.add h k2 k1 (Nat.zero_le _)
  · exact hf _ _ _ h hl hs
theorem lvl_K {inner : Option (Nat → PS)} (hi : ∀ g, inner = some g → ∀ k, K (g k)) : ∀ k, K (lvl inner k)
  | 0 => by
    unfold lvl
    refine atom_K fun f hf => ?_
    obtain ⟨g, hg, rfl⟩ := Option.map_eq_some_iff.1 hf
    exact hi g hg 6
  | k + 1 => by
    unfold lvl
    split
    · refine notP_K (fun f hf => ?_) (lvl_K hi k)
      obtain ⟨g, hg, rfl⟩ := Option.map_eq_some_iff.1 hf
      exact hi g hg 4
    · intro s x s' h hl hs
      simp only at h
      cases h2 : lvl inner k s with
      | error e => rw [h2] at h; cases h
      | ok y =>
      obtain ⟨a, s2⟩ := y
      rw [h2] at h
      obtain ⟨k1, k2⟩ := lvl_K hi k _ _ _ h2 hl hs
      exact loop_K (lvl_K hi k) _ _ _ _ _ _ h k2 k1
theorem row_K : ∀ d k, K (row d k)
  | 0, k => lvl_K (fun g hg => by cases hg) k
  | d + 1, k => lvl_K (fun g hg => by
      obtain rfl := Option.some.inj hg
      exact row_K d) k
theorem exprP_short {l q : List Nat} {ns : List Nd} (h : exprP l = .ok (ns, q)) (hl : l.length ≤ 4096) : Sh ns := by
  unfold exprP at h
  cases h2 : row 16 6 (l, []) with
  | error e => rw [h2] at h; cases h
  | ok y =>
  obtain ⟨a, s2⟩ := y
  rw [h2] at h
  simp only [Except.ok.injEq, Prod.mk.injEq] at h
  obtain ⟨rfl, _⟩ := h
  exact (row_K _ _ _ _ _ h2 hl (fun _ h => nomatch h)).1
end Go.Proofs.YthhlmalpelgpeaaGreatDoor.Zq

/-
  No rule that is read holds a text longer than 4096.
-/
namespace Go.Proofs.YthhlmalpelgpeaaGreatDoor.Zq

def RlSh (r : Rl) : Prop := r.name.length ≤ 4096 ∧ Sh r.expr ∧ Sh r.cond
theorem sh_nil : Sh [] := fun _ h => nomatch h
theorem exprP_len {l q : List Nat} {ns : List Nd} (h : exprP l = .ok (ns, q)) (hl : l.length ≤ 4096) : q.length ≤ 4096 := Nat.le_trans (exprP_more h).1.length_le hl
theorem ruleP_short {m : Nat} {l q : List Nat} {r : Rl} (h : ruleP m l = .ok (r, q)) (hl : l.length ≤ 4096) : RlSh r := by
  unfold ruleP at h
  cases h1 : nameP l with
  | error e => rw [h1] at h; cases h
  | ok y =>
  obtain ⟨t, l1⟩ := y
  rw [h1] at h
  obtain ⟨g1, g2⟩ := nameP_len h1 hl
  simp only at h
  by_cases hm : 16 ≤ m
  · rw [if_pos hm] at h; cases h
  rw [if_neg hm] at h
  by_cases hd : t = wDeny
  · rw [if_pos hd] at h
    cases h2 : past wWhen l1 with
    | error e => rw [h2] at h; cases h
    | ok l2 =>
    rw [h2] at h
    simp only at h
    cases h3 : exprP l2 with
    | error e => rw [h3] at h; cases h
    | ok y =>
    obtain ⟨c, l3⟩ := y
    rw [h3] at h
    simp only [Except.ok.injEq, Prod.mk.injEq] at h
    obtain ⟨rfl, rfl⟩ := h
    exact ⟨Nat.zero_le _, sh_nil, exprP_short h3 (pastK_len h2 g1)⟩
  rw [if_neg hd] at h
  by_cases hw : t ∈ words
  · rw [if_pos hw] at h; cases h
  rw [if_neg hw] at h
  cases h2 : past [61] l1 with
  | error e => rw [h2] at h; cases h
  | ok l2 =>
  rw [h2] at h
  simp only at h
  cases h3 : exprP l2 with
  | error e => rw [h3] at h; cases h
  | ok y =>
  obtain ⟨c, l3⟩ := y
  rw [h3] at h
  have g3 := pastK_len h2 g1
  have g4 := exprP_len h3 g3
  simp only at h
  cases h4 : isP wWhen l3 with
  | error e => rw [h4] at h; cases h
  | ok more =>
  rw [h4] at h
  simp only at h
  cases more with
  | false =>
    simp only [Bool.false_eq_true, if_false, Except.ok.injEq, Prod.mk.injEq] at h
    obtain ⟨rfl, rfl⟩ := h
    exact ⟨g2, exprP_short h3 g3, sh_nil⟩
  | true =>
    simp only [if_true] at h
    cases h5 : past wWhen l3 with
    | error e => rw [h5] at h; cases h
    | ok l4 =>
    rw [h5] at h
    simp only at h
    cases h6 : exprP l4 with
    | error e => rw [h6] at h; cases h
    | ok y =>
    obtain ⟨c2, l5⟩ := y
    rw [h6] at h
    simp only [Except.ok.injEq, Prod.mk.injEq] at h
    obtain ⟨rfl, rfl⟩ := h
    exact ⟨g2, exprP_short h3 g3, exprP_short h6 (pastK_len h5 g4)⟩
theorem rules_short : ∀ (n : Nat) (rs : List Rl) (l : List Nat) (a : List Rl), rulesP n rs l = .ok a → l.length ≤ 4096 → (∀ r ∈ rs, RlSh r) → ∀ r ∈ a, RlSh r
  | 0, _, _, _, h, _, _ => by cases h
  | n + 1, rs, l, a, h, hl, hr => by
    unfold rulesP at h
    cases h1 : overP l with
    | error e => rw [h1] at h; cases h
    | ok b =>
    rw [h1] at h
    cases b with
    | true => simp only [Except.ok.injEq] at h; subst h; exact hr
    | false =>
    simp only at h
    cases h2 : ruleP rs.length l with
    | error e => rw [h2] at h; cases h
    | ok y =>
    obtain ⟨r, l2⟩ := y
    rw [h2] at h
    have ok := ruleP_short h2 hl
    have g2 : l2.length ≤ 4096 := Nat.le_trans (ruleP_more h2).1.length_le hl
    have hr2 : ∀ x ∈ rs ++ [r], RlSh x := fun x hx => by
      rcases List.mem_append.1 hx with hx | hx
      · exact hr x hx
      · rw [List.mem_singleton.1 hx]; exact ok
    simp only at h
    cases h3 : overP l2 with
    | error e => rw [h3] at h; cases h
    | ok b =>
    rw [h3] at h
    cases b with
    | true => simp only [Except.ok.injEq] at h; subst h; exact hr2
    | false =>
      simp only at h
      cases h4 : past [59] l2 with
      | error e => rw [h4] at h; cases h
      | ok l3 => rw [h4] at h; exact rules_short n _ _ _ h (pastK_len h4 g2) hr2
theorem parse_short {s : List Nat} {rs : List Rl} (h : parse s = .ok rs) : ∀ r ∈ rs, RlSh r := by
  unfold parse at h
  split at h
  · cases h
  · exact rules_short _ _ _ _ h (by omega) (fun _ h => nomatch h)
end Go.Proofs.YthhlmalpelgpeaaGreatDoor.Zq

/-
  What was read is rules in memory that can be written.
-/
namespace Go.Proofs.YthhlmalpelgpeaaGreatDoor
open Go.RowKit

def NdI (n : Zq.Nd) : Prop := (-9223372036854775808 ≤ n.int ∧ n.int ≤ 9223372036854775807) ∧ (-9223372036854775808 ≤ n.a ∧ n.a ≤ 9223372036854775807) ∧ (-9223372036854775808 ≤ n.b ∧ n.b ≤ 9223372036854775807)
theorem flat_ints : ∀ (t : Zq.T) (d o : Nat), Zq.Inner t d → o + t.size ≤ 1000 → ∀ n ∈ t.flat o, NdI n
  | .leaf n, d, o, h, _, m, hm => by
    simp only [Zq.T.flat, List.mem_singleton] at hm
    subst hm
    rcases h.1 with ⟨y, rfl, hy⟩ | ⟨y, rfl, hy⟩ | ⟨y, rfl, hy⟩ | ⟨y, rfl, hy⟩
    · exact ⟨by simp, by simp, by simp⟩
    · unfold Zq.top at hy
      exact ⟨⟨by simp only; omega, by simp only; omega⟩, by simp, by simp⟩
    · exact ⟨by simp, by simp, by simp⟩
    · exact ⟨by simp, by simp, by simp⟩
  | .un op t, d, o, h, hs, m, hm => by
    simp only [Zq.T.flat, List.mem_append, List.mem_singleton] at hm
    simp only [Zq.T.size] at hs
    rcases hm with hm | rfl
    · obtain ⟨e, _, ⟨_, h⟩ | ⟨_, h⟩⟩ := h <;> obtain ⟨e', h⟩ := fitOf_some h <;> exact flat_ints t e' o h (by omega) m hm
    · exact ⟨by simp, ⟨by simp only; omega, by simp only; omega⟩, by simp⟩
  | .bin op a b, d, o, h, hs, m, hm => by
    simp only [Zq.T.flat, List.mem_append, List.mem_singleton] at hm
    simp only [Zq.T.size] at hs
    rcases hm with (hm | hm) | rfl
    · rcases h with ⟨_, e, _, ha, hb⟩ | ⟨k, _, ha, hb⟩ <;> obtain ⟨e1, ha⟩ := fitOf_some ha <;> exact flat_ints a e1 o ha (by omega) m hm
    · rcases h with ⟨_, e, _, ha, hb⟩ | ⟨k, _, ha, hb⟩ <;> obtain ⟨e2, hb⟩ := fitOf_some hb <;> exact flat_ints b e2 _ hb (by omega) m hm
    · exact ⟨by simp, ⟨by simp only; omega, by simp only; omega⟩, ⟨by simp only; omega, by simp only; omega⟩⟩
theorem isE_nodes {ns : List Zq.Nd} (h : Zq.IsE ns) (hs : Zq.Sh ns) : ∀ n ∈ ns, NdW n := by
  have hb := isE_bytes h
  obtain ⟨t, h1, rfl, h3⟩ := h
  intro n hn
  obtain ⟨g1, g2, g3⟩ := flat_ints t _ 0 h1 (by omega) n hn
  exact ⟨g1, g2, g3, by have := hs n hn; omega, hb n hn⟩
/-- All of a rule can be written. -/
def RlG (r : Zq.Rl) : Prop := ((∀ x ∈ r.name, x < 256) ∧ r.name.length ≤ 4096) ∧ (∀ n ∈ r.expr, NdW n) ∧ ∀ n ∈ r.cond, NdW n
theorem rule_good {r : Zq.Rl} (h : Zq.RuleOk r) (hs : Zq.RlSh r) : RlG r := by
  obtain ⟨s1, s2, s3⟩ := hs
  have hnil : ∀ {ns : List Zq.Nd}, ns = [] → ∀ n ∈ ns, NdW n := fun h n hn => by rw [h] at hn; cases hn
  refine ⟨⟨(rule_bytes h).1, s1⟩, ?_⟩
  rcases h with ⟨h1, h2, h3⟩ | ⟨h1, _, h2, h3 | h3⟩
  · exact ⟨hnil h2, isE_nodes h3 s3⟩
  · exact ⟨isE_nodes h2 s2, hnil h3⟩
  · exact ⟨isE_nodes h2 s2, isE_nodes h3 s3⟩
theorem parse_good {s : List Nat} {rs : List Zq.Rl} (h : Zq.parse s = .ok rs) : ∀ r ∈ rs, RlG r := fun r hr => rule_good ((parse_ok h).1 r hr) (Zq.parse_short h r hr)
/-- Rules that can be compared, written: where their texts are short. -/
theorem RsE.toW {w : World} {ok : Nat → Prop} {v : Value} {rs : List Zq.Rl} (h : RsE w ok v rs) (hn : rs.length ≤ 140737488355328) (hr : ∀ r ∈ rs, RlG r ∧ r.expr.length ≤ 140737488355328 ∧ r.cond.length ≤ 140737488355328) : RsW w ok v rs := by
  obtain ⟨A, c, e, h1, h2, us, h4, h5, h6⟩ := h
  refine ⟨A, c, e, h1, h2, hn, us, h4, fun i u r e1 e2 => ?_, h6⟩
  obtain ⟨k1, k2, k3, k4⟩ := h5 i u r e1 e2
  obtain ⟨⟨⟨g1, g2⟩, g3, g4⟩, l1, l2⟩ := hr r (List.mem_of_getElem? e2)
  have hns : ∀ (v : Value) (ns : List Zq.Nd), ns.length ≤ 140737488355328 → (∀ n ∈ ns, NdW n) → NsE w ok v ns → NsW w ok v ns := fun v ns hl hg ⟨A', c', e, f1, f2, _, f3⟩ => ⟨A', c', e, f1, f2, hl, hg, f3⟩
  exact ⟨k1, g1, by omega, hns _ _ l1 g3 k3, hns _ _ l2 g4 k4⟩
end Go.Proofs.YthhlmalpelgpeaaGreatDoor
