/-
  G16: ZJ2 ZJ3, side by side.
-/
import Derived.Test.YthhlmalpelgpeaaGreatDoorG22

/-
  Rules, plain: expressions and rules with a semicolon and more behind them.
-/
namespace Go.Proofs.YthhlmalpelgpeaaGreatDoor.Zq

theorem call_more {inner : Option PS} (hf : ∀ f, inner = some f → More f) (op : Int) : More (call inner op) := by
  intro l ns x l' ns' h
  unfold call at h ⊢
  simp only at h ⊢
  cases h1 : past [40] l with
  | error e => rw [h1] at h; cases h
  | ok l1 =>
  rw [h1] at h
  obtain ⟨s1, m1⟩ := past_more h1
  cases inner with
  | none => cases h
  | some f =>
  have hf := hf f rfl
  simp only at h
  by_cases h4 : op = 4
  · rw [if_pos h4] at h
    cases h2 : past [36] l1 with
    | error e => rw [h2] at h; cases h
    | ok l2 =>
    rw [h2] at h
    obtain ⟨s2, m2⟩ := past_more h2
    simp only at h
    cases h3 : nameP l2 with
    | error e => rw [h3] at h; cases h
    | ok y =>
    obtain ⟨t, l3⟩ := y
    rw [h3] at h
    obtain ⟨s3, m3⟩ := nameP_more h3
    simp only at h
    cases h5 : past [41] l3 with
    | error e => rw [h5] at h; cases h
    | ok l4 =>
    rw [h5] at h
    obtain ⟨s5, m5⟩ := past_more h5
    simp only at h
    obtain ⟨s6, m6⟩ := add_more _ _ _ _ _ _ h
    refine ⟨s6.trans (s5.trans (s3.trans (s2.trans s1))), fun z => ?_⟩
    rw [m1 z]
    simp only
    rw [if_pos h4, m2 z]
    simp only
    rw [m3 z]
    simp only
    rw [m5 z]
    exact m6 z
  rw [if_neg h4] at h
  cases h2 : f (l1, ns) with
  | error e => rw [h2] at h; cases h
  | ok y =>
  obtain ⟨a, l2, n2⟩ := y
  rw [h2] at h
  obtain ⟨s2, m2⟩ := hf _ _ _ _ _ h2
  simp only at h
  by_cases h7 : op = 17
  · rw [if_pos h7] at h
    cases h3 : past [44] l2 with
    | error e => rw [h3] at h; cases h
    | ok l3 =>
    rw [h3] at h
    obtain ⟨s3, m3⟩ := past_more h3
    simp only at h
    cases h5 : f (l3, n2) with
    | error e => rw [h5] at h; cases h
    | ok y =>
    obtain ⟨b, l4, n4⟩ := y
    rw [h5] at h
    obtain ⟨s5, m5⟩ := hf _ _ _ _ _ h5
    simp only at h
    cases h6 : past [41] l4 with
    | error e => rw [h6] at h; cases h
    | ok l5 =>
    rw [h6] at h
    obtain ⟨s6, m6⟩ := past_more h6
    simp only at h
    obtain ⟨s8, m8⟩ := add_more _ _ _ _ _ _ h
    refine ⟨s8.trans (s6.trans (s5.trans (s3.trans (s2.trans s1)))), fun z => ?_⟩
    rw [m1 z]
    simp only
    rw [if_neg h4, m2 z]
    simp only
    rw [if_pos h7, m3 z]
    simp only
    rw [m5 z]
    simp only
    rw [m6 z]
    exact m8 z
  rw [if_neg h7] at h
  cases h3 : past [41] l2 with
  | error e => rw [h3] at h; cases h
  | ok l3 =>
  rw [h3] at h
  obtain ⟨s3, m3⟩ := past_more h3
  simp only at h
  obtain ⟨s8, m8⟩ := add_more _ _ _ _ _ _ h
  refine ⟨s8.trans (s3.trans (s2.trans s1)), fun z => ?_⟩
  rw [m1 z]
  simp only
  rw [if_neg h4, m2 z]
  simp only
  rw [if_neg h7, m3 z]
  exact m8 z
theorem atom_more {inner : Option PS} (hf : ∀ f, inner = some f → More f) : More (atom inner) := by
  intro l ns x l' ns' h
  unfold atom at h ⊢
  simp only at h ⊢
  cases h1 : next l with
  | none => rw [h1] at h; cases h
  | some y =>
  obtain ⟨t, q⟩ := y
  rw [h1] at h
  obtain ⟨s1, m1⟩ := next_more h1
  cases t with
  | fin => cases h
  | text u =>
    simp only at h
    obtain ⟨s2, m2⟩ := add_more _ _ _ _ _ _ h
    refine ⟨s2.trans s1, fun z => ?_⟩
    rw [m1 (by simp) z]
    exact m2 z
  | num n =>
    simp only at h
    obtain ⟨s2, m2⟩ := add_more _ _ _ _ _ _ h
    refine ⟨s2.trans s1, fun z => ?_⟩
    rw [m1 (by simp) z]
    exact m2 z
  | name u =>
    simp only at h
    by_cases h0 : fnOp u = 0
    · rw [if_pos h0] at h; cases h
    · rw [if_neg h0] at h
      obtain ⟨s2, m2⟩ := call_more hf _ _ _ _ _ _ h
      refine ⟨s2.trans s1, fun z => ?_⟩
      rw [m1 (by simp) z]
      simp only
      rw [if_neg h0]
      exact m2 z
  | sign u =>
    simp only at h
    by_cases h2 : u = [36]
    · rw [if_pos h2] at h
      cases h3 : nameP q with
      | error e => rw [h3] at h; cases h
      | ok y =>
      obtain ⟨t, l3⟩ := y
      rw [h3] at h
      obtain ⟨s3, m3⟩ := nameP_more h3
      simp only at h
      obtain ⟨s4, m4⟩ := add_more _ _ _ _ _ _ h
      refine ⟨s4.trans (s3.trans s1), fun z => ?_⟩
      rw [m1 (by simp) z]
      simp only
      rw [if_pos h2, m3 z]
      exact m4 z
    rw [if_neg h2] at h
    by_cases h3 : u = [40]
    · rw [if_pos h3] at h
      cases inner with
      | none => cases h
      | some f =>
      simp only at h
      cases h4 : f (q, ns) with
      | error e => rw [h4] at h; cases h
      | ok y =>
      obtain ⟨a, l2, n2⟩ := y
      rw [h4] at h
      obtain ⟨s4, m4⟩ := hf f rfl _ _ _ _ _ h4
      simp only at h
      cases h5 : past [41] l2 with
      | error e => rw [h5] at h; cases h
      | ok l3 =>
      rw [h5] at h
      obtain ⟨s5, m5⟩ := past_more h5
      simp only [Except.ok.injEq, Prod.mk.injEq] at h
      obtain ⟨rfl, rfl, rfl⟩ := h
      refine ⟨s5.trans (s4.trans s1), fun z => ?_⟩
      rw [m1 (by simp) z]
      simp only
      rw [if_neg h2, if_pos h3, m4 z]
      simp only
      rw [m5 z]
    · rw [if_neg h3] at h; cases h
theorem loop_more {f : PS} (hf : More f) (k : Nat) : ∀ (n : Nat) (left : Int), More (loop f k n left)
  | 0, left => fun l ns x l' ns' h => by cases h
  | n + 1, left => fun l ns x l' ns' h => by
    unfold loop at h ⊢
    simp only at h ⊢
    cases h1 : operP k l with
    | error e => rw [h1] at h; cases h
    | ok y =>
    obtain ⟨op, q⟩ := y
    rw [h1] at h
    obtain ⟨s1, m1⟩ := operP_more h1
    simp only at h
    by_cases h0 : op = 0
    · rw [if_pos h0] at h
      simp only [Except.ok.injEq, Prod.mk.injEq] at h
      obtain ⟨rfl, rfl, rfl⟩ := h
      refine ⟨s1, fun z => ?_⟩
      rw [m1 z]
      simp only
      rw [if_pos h0]
    rw [if_neg h0] at h
    cases h2 : f (q, ns) with
    | error e => rw [h2] at h; cases h
    | ok y =>
    obtain ⟨a, l2, n2⟩ := y
    rw [h2] at h
    obtain ⟨s2, m2⟩ := hf _ _ _ _ _ h2
    simp only at h
    cases h3 : add ⟨op, 0, left, a, []⟩ (l2, n2) with
    | error e => rw [h3] at h; cases h
    | ok y =>
    obtain ⟨i, l3, n3⟩ := y
    rw [h3] at h
    obtain ⟨s3, m3⟩ := add_more _ _ _ _ _ _ h3
    simp only at h
    by_cases hk : k = 3
    · rw [if_pos hk] at h
      simp only [Except.ok.injEq, Prod.mk.injEq] at h
      obtain ⟨rfl, rfl, rfl⟩ := h
      refine ⟨s3.trans (s2.trans s1), fun z => ?_⟩
      rw [m1 z]
      simp only
      rw [if_neg h0, m2 z]
      simp only
      rw [m3 z]
      simp only
      rw [if_pos hk]
    · rw [if_neg hk] at h
      obtain ⟨s4, m4⟩ := loop_more hf k n i _ _ _ _ _ h
      refine ⟨s4.trans (s3.trans (s2.trans s1)), fun z => ?_⟩
      rw [m1 z]
      simp only
      rw [if_neg h0, m2 z]
      simp only
      rw [m3 z]
      simp only
      rw [if_neg hk]
      exact m4 z
theorem notP_more {inner : Option PS} {f : PS} (hi : ∀ g, inner = some g → More g) (hf : More f) : More (notP inner f) := by
  intro l ns x l' ns' h
  unfold notP at h ⊢
  simp only at h ⊢
  cases h1 : next l with
  | none => rw [h1] at h; cases h
  | some y =>
  obtain ⟨t, q⟩ := y
  rw [h1] at h
  obtain ⟨s1, m1⟩ := next_more h1
  simp only at h
  by_cases ht : isTok t wNot = true
  · rw [if_pos ht] at h
    have hne : t ≠ .fin := fun e => by rw [e, isTok_fin] at ht; cases ht
    cases inner with
    | none => cases h
    | some g =>
    simp only at h
    cases h4 : g (q, ns) with
    | error e => rw [h4] at h; cases h
    | ok y =>
    obtain ⟨a, l2, n2⟩ := y
    rw [h4] at h
    obtain ⟨s4, m4⟩ := hi g rfl _ _ _ _ _ h4
    simp only at h
    obtain ⟨s5, m5⟩ := add_more _ _ _ _ _ _ h
    refine ⟨s5.trans (s4.trans s1), fun z => ?_⟩
    rw [m1 hne z]
    simp only
    rw [if_pos ht, m4 z]
    exact m5 z
  · rw [if_neg ht] at h
    obtain ⟨s2, m2⟩ := hf _ _ _ _ _ h
    refine ⟨s2, fun z => ?_⟩
    by_cases hne : t = .fin
    · rw [next_semi (next_fin (hne ▸ h1)).1]
      simp only
      rw [if_neg (by rw [isTok_semi (by decide)]; exact Bool.false_ne_true)]
      exact m2 z
    · rw [m1 hne z]
      simp only
      rw [if_neg ht]
      exact m2 z
theorem lvl_more {inner : Option (Nat → PS)} (hi : ∀ g, inner = some g → ∀ k, More (g k)) : ∀ k, More (lvl inner k)
  | 0 => by
    unfold lvl
    refine atom_more fun f hf => ?_
    obtain ⟨g, hg, rfl⟩ := Option.map_eq_some_iff.1 hf
    exact hi g hg 6
  | k + 1 => by
    have ih := lvl_more hi k
    unfold lvl
    by_cases h4 : k + 1 = 4
    · rw [if_pos h4]
      refine notP_more (fun f hf => ?_) ih
      obtain ⟨g, hg, rfl⟩ := Option.map_eq_some_iff.1 hf
      exact hi g hg 4
    · rw [if_neg h4]
      intro l ns x l' ns' h
      simp only at h ⊢
      cases h1 : lvl inner k (l, ns) with
      | error e => rw [h1] at h; cases h
      | ok y =>
      obtain ⟨a, l2, n2⟩ := y
      rw [h1] at h
      obtain ⟨s1, m1⟩ := ih _ _ _ _ _ h1
      obtain ⟨s2, m2⟩ := loop_more ih _ _ _ _ _ _ _ _ h
      refine ⟨s2.trans s1, fun z => ?_⟩
      rw [m1 z]
      exact m2 z
theorem row_more : ∀ d k, More (row d k)
  | 0, k => lvl_more (fun g hg => by cases hg) k
  | d + 1, k => lvl_more (fun g hg => by
      obtain rfl := Option.some.inj hg
      exact row_more d) k
theorem exprP_more {l q : List Nat} {ns : List Nd} (h : exprP l = .ok (ns, q)) : q <:+ l ∧ ∀ z, exprP (l ++ 59 :: z) = .ok (ns, q ++ 59 :: z) := by
  unfold exprP at h ⊢
  cases h1 : row 16 6 (l, []) with
  | error e => rw [h1] at h; cases h
  | ok y =>
  obtain ⟨a, l2, n2⟩ := y
  rw [h1] at h
  simp only [Except.ok.injEq, Prod.mk.injEq] at h
  obtain ⟨rfl, rfl⟩ := h
  obtain ⟨s1, m1⟩ := row_more _ _ _ _ _ _ _ h1
  exact ⟨s1, fun z => by rw [m1 z]⟩
theorem ruleP_more {m : Nat} {l q : List Nat} {r : Rl} (h : ruleP m l = .ok (r, q)) : q <:+ l ∧ m < 16 ∧ ∀ m' z, m' < 16 → ruleP m' (l ++ 59 :: z) = .ok (r, q ++ 59 :: z) := by
  unfold ruleP at h ⊢
  cases h1 : nameP l with
  | error e => rw [h1] at h; cases h
  | ok y =>
  obtain ⟨t, l1⟩ := y
  rw [h1] at h
  obtain ⟨s1, m1⟩ := nameP_more h1
  simp only at h
  by_cases hm : 16 ≤ m
  · rw [if_pos hm] at h; cases h
  rw [if_neg hm] at h
  by_cases hd : t = wDeny
  · rw [if_pos hd] at h
    cases h2 : past wWhen l1 with
    | error e => rw [h2] at h; cases h
    | ok l2 =>
    rw [h2] at h
    obtain ⟨s2, m2⟩ := past_more h2
    simp only at h
    cases h3 : exprP l2 with
    | error e => rw [h3] at h; cases h
    | ok y =>
    obtain ⟨c, l3⟩ := y
    rw [h3] at h
    obtain ⟨s3, m3⟩ := exprP_more h3
    simp only [Except.ok.injEq, Prod.mk.injEq] at h
    obtain ⟨rfl, rfl⟩ := h
    refine ⟨s3.trans (s2.trans s1), by omega, fun m' z hm' => ?_⟩
    rw [m1 z]
    simp only
    rw [if_neg (by omega), if_pos hd, m2 z]
    simp only
    rw [m3 z]
  rw [if_neg hd] at h
  by_cases hw : t ∈ words
  · rw [if_pos hw] at h; cases h
  rw [if_neg hw] at h
  cases h2 : past [61] l1 with
  | error e => rw [h2] at h; cases h
  | ok l2 =>
  rw [h2] at h
  obtain ⟨s2, m2⟩ := past_more h2
  simp only at h
  cases h3 : exprP l2 with
  | error e => rw [h3] at h; cases h
  | ok y =>
  obtain ⟨c, l3⟩ := y
  rw [h3] at h
  obtain ⟨s3, m3⟩ := exprP_more h3
  simp only at h
  cases h4 : isP wWhen l3 with
  | error e => rw [h4] at h; cases h
  | ok more =>
  rw [h4] at h
  have m4 := isP_more (by decide) h4
  simp only at h
  cases more with
  | false =>
    simp only [Bool.false_eq_true, if_false, Except.ok.injEq, Prod.mk.injEq] at h
    obtain ⟨rfl, rfl⟩ := h
    refine ⟨s3.trans (s2.trans s1), by omega, fun m' z hm' => ?_⟩
    rw [m1 z]
    simp only
    rw [if_neg (by omega), if_neg hd, if_neg hw, m2 z]
    simp only
    rw [m3 z]
    simp only
    rw [m4 z]
    rfl
  | true =>
    simp only [if_true] at h
    cases h5 : past wWhen l3 with
    | error e => rw [h5] at h; cases h
    | ok l4 =>
    rw [h5] at h
    obtain ⟨s5, m5⟩ := past_more h5
    simp only at h
    cases h6 : exprP l4 with
    | error e => rw [h6] at h; cases h
    | ok y =>
    obtain ⟨c2, l5⟩ := y
    rw [h6] at h
    obtain ⟨s6, m6⟩ := exprP_more h6
    simp only [Except.ok.injEq, Prod.mk.injEq] at h
    obtain ⟨rfl, rfl⟩ := h
    refine ⟨s6.trans (s5.trans (s3.trans (s2.trans s1))), by omega, fun m' z hm' => ?_⟩
    rw [m1 z]
    simp only
    rw [if_neg (by omega), if_neg hd, if_neg hw, m2 z]
    simp only
    rw [m3 z]
    simp only
    rw [m4 z]
    simp only [if_true]
    rw [m5 z]
    simp only
    rw [m6 z]
end Go.Proofs.YthhlmalpelgpeaaGreatDoor.Zq

/-
  Rules, plain: two texts with a semicolon between them.
-/
namespace Go.Proofs.YthhlmalpelgpeaaGreatDoor.Zq

/-- The last byte that is no blank; a semicolon, if there is none. -/
def lastB (l : List Nat) : Nat := (l.filter fun c => !blank c).getLastD 59
theorem lastB_semi (x l : List Nat) : lastB (x ++ 59 :: l) = lastB l := by
  unfold lastB
  rw [List.filter_append, List.filter_cons_of_pos (by rfl), List.getLastD_eq_getLast?, List.getLast?_append, List.getLast?_cons]
  simp
theorem skip_nil : ∀ {l : List Nat}, skip l = [] → ∀ c ∈ l, blank c = true
  | [], _, c, hc => by cases hc
  | x :: r, h, c, hc => by
    unfold skip at h
    by_cases hx : blank x = true
    · rw [List.dropWhile_cons, if_pos hx] at h
      rcases List.mem_cons.1 hc with rfl | hc
      · exact hx
      · exact skip_nil h c hc
    · rw [List.dropWhile_cons, if_neg hx] at h; cases h
theorem lastB_blank {l : List Nat} (h : skip l = []) : lastB l = 59 := by
  unfold lastB
  have : l.filter (fun c => !blank c) = [] := by
    rw [List.filter_eq_nil_iff]
    intro c hc
    have := skip_nil h c hc
    rw [this]; decide
  rw [this]; rfl
theorem overP_true {l : List Nat} (h : overP l = .ok true) : skip l = [] := by
  unfold overP at h
  cases hn : next l with
  | none => rw [hn] at h; cases h
  | some y =>
    obtain ⟨t, q⟩ := y
    rw [hn] at h
    simp only [Except.ok.injEq, decide_eq_true_eq] at h
    subst h
    exact (next_fin hn).1
theorem overP_false {l : List Nat} (h : overP l = .ok false) (z : List Nat) : overP (l ++ 59 :: z) = .ok false := by
  unfold overP at h ⊢
  cases hn : next l with
  | none => rw [hn] at h; cases h
  | some y =>
    obtain ⟨t, q⟩ := y
    rw [hn] at h
    simp only [Except.ok.injEq, decide_eq_false_iff_not] at h
    rw [(next_more hn).2 h z]
    simp [h]
theorem overP_semi {l : List Nat} (h : skip l = []) (z : List Nat) : overP (l ++ 59 :: z) = .ok false := by
  unfold overP
  rw [next_semi h]
  rfl
theorem past_semi {l : List Nat} (h : skip l = []) (z : List Nat) : past [59] (l ++ 59 :: z) = .ok z := by
  unfold past
  rw [next_semi h]
  rfl
theorem past_is {l q : List Nat} (h : past [59] l = .ok q) : ∃ x, l = x ++ 59 :: q := by
  unfold past at h
  cases hn : next l with
  | none => rw [hn] at h; cases h
  | some y =>
    obtain ⟨t, r⟩ := y
    rw [hn] at h
    simp only at h
    by_cases hi : isTok t [59] = true
    · rw [if_pos hi] at h
      injection h with h
      subst h
      have hsk := skip_suffix l
      unfold next at hn
      cases hs : skip l with
      | nil => rw [hs] at hn; simp at hn; rw [← hn.1] at hi; rw [isTok_fin] at hi; cases hi
      | cons c r' =>
        rw [hs] at hn hsk
        simp only at hn
        by_cases h1 : low c = true
        · rw [if_pos h1] at hn
          split at hn
          · cases hn
          · simp only [Option.some.injEq, Prod.mk.injEq] at hn
            rw [← hn.1] at hi
            have hc : (c :: r').takeWhile inName = c :: r'.takeWhile inName := by
              rw [List.takeWhile_cons, if_pos (by unfold inName; rw [h1]; rfl)]
            rw [hc] at hi
            simp [isTok] at hi
            rw [hi.1] at h1
            cases h1
        rw [if_neg h1] at hn
        by_cases h2 : dig c = true
        · rw [if_pos h2] at hn
          split at hn
          · cases hn
          · simp only [Option.some.injEq, Prod.mk.injEq] at hn
            rw [← hn.1] at hi
            simp [isTok] at hi
        rw [if_neg h2] at hn
        by_cases h3 : c = 39
        · rw [if_pos h3] at hn
          obtain ⟨⟨a, b⟩, hab, h5⟩ := Option.map_eq_some_iff.1 hn
          simp only [Prod.mk.injEq] at h5
          rw [← h5.1] at hi
          simp [isTok] at hi
        rw [if_neg h3] at hn
        by_cases h4 : c = 61 ∧ r'.head? = some 61
        · rw [if_pos h4] at hn
          simp only [Option.some.injEq, Prod.mk.injEq] at hn
          rw [← hn.1] at hi
          simp [isTok] at hi
        rw [if_neg h4] at hn
        by_cases h5 : c ∈ signs
        · rw [if_pos h5] at hn
          simp only [Option.some.injEq, Prod.mk.injEq] at hn
          obtain ⟨rfl, rfl⟩ := hn
          simp [isTok] at hi
          subst hi
          obtain ⟨x, hx⟩ := hsk
          exact ⟨x, hx.symm⟩
        · rw [if_neg h5] at hn; cases hn
    · rw [if_neg hi] at h; cases h
theorem ruleP_any {m m' : Nat} {l : List Nat} {x : Rl × List Nat} (hm : m' < 16) (h : ruleP m l = .ok x) : ruleP m' l = .ok x := by
  unfold ruleP at h ⊢
  cases h1 : nameP l with
  | error e => rw [h1] at h; cases h
  | ok y =>
    obtain ⟨t, l1⟩ := y
    rw [h1] at h
    simp only at h ⊢
    by_cases hm : 16 ≤ m
    · rw [if_pos hm] at h; cases h
    rw [if_neg hm] at h
    rw [if_neg (by omega)]
    exact h
/-- Each rule that is read stands behind those that were read. -/
theorem rules_grow : ∀ (n : Nat) (rs : List Rl) (l : List Nat) (a : List Rl), rulesP n rs l = .ok a → rs.length ≤ a.length
  | 0, _, _, _, h => by cases h
  | n + 1, rs, l, a, h => by
    unfold rulesP at h
    split at h
    · cases h
    · injection h with h; rw [h]; exact Nat.le_refl _
    · split at h
      · cases h
      · split at h
        · cases h
        · injection h with h; rw [← h]; simp
        · split at h
          · cases h
          · have := rules_grow n _ _ _ h
            rw [List.length_append] at this
            simp at this
            omega
theorem rules_semi : ∀ (n : Nat) (rs : List Rl) (l : List Nat) (a : List Rl), rulesP n rs l = .ok a → lastB l ≠ 59 → ∃ j, a.length = rs.length + j ∧ ∀ N z, rulesP (N + j) rs (l ++ 59 :: z) = rulesP N a z
  | 0, _, _, _, h, _ => by cases h
  | n + 1, rs, l, a, h, hl => by
    unfold rulesP at h
    cases h1 : overP l with
    | error e => rw [h1] at h; cases h
    | ok b =>
    cases b with
    | true => exact absurd (lastB_blank (overP_true h1)) hl
    | false =>
    rw [h1] at h
    simp only at h
    cases h2 : ruleP rs.length l with
    | error e => rw [h2] at h; cases h
    | ok y =>
    obtain ⟨r, l2⟩ := y
    rw [h2] at h
    obtain ⟨s2, hm, m2⟩ := ruleP_more h2
    simp only at h
    cases h3 : overP l2 with
    | error e => rw [h3] at h; cases h
    | ok b =>
    rw [h3] at h
    cases b with
    | true =>
      simp only [Except.ok.injEq] at h
      subst h
      refine ⟨1, by simp, fun N z => ?_⟩
      rw [rulesP, overP_false h1]
      simp only
      rw [m2 _ _ hm]
      simp only
      rw [overP_semi (overP_true h3)]
      simp only
      rw [past_semi (overP_true h3)]
    | false =>
      simp only at h
      cases h4 : past [59] l2 with
      | error e => rw [h4] at h; cases h
      | ok l3 =>
      rw [h4] at h
      simp only at h
      obtain ⟨x, hx⟩ := past_is h4
      obtain ⟨y, hy⟩ := s2
      have hl3 : lastB l3 ≠ 59 := by
        rw [← hy, hx, ← List.append_assoc, lastB_semi] at hl
        exact hl
      obtain ⟨j, hj, hN⟩ := rules_semi n _ _ _ h hl3
      refine ⟨j + 1, by rw [hj, List.length_append]; simp; omega, fun N z => ?_⟩
      rw [← Nat.add_assoc, rulesP, overP_false h1]
      simp only
      rw [m2 _ _ hm]
      simp only
      rw [overP_false h3]
      simp only
      rw [(past_more h4).2 z]
      exact hN N z
theorem rules_pre : ∀ (n : Nat) (rs : List Rl) (l : List Nat) (m : List Rl), rulesP n rs l = .ok m → ∀ (p : List Rl) (N : Nat), p.length + m.length ≤ 16 → m.length + 1 ≤ N + rs.length → rulesP N (p ++ rs) l = .ok (p ++ m)
  | 0, _, _, _, h, _, _, _, _ => by cases h
  | n + 1, rs, l, m, h, p, N, hp, hN => by
    have hg := rules_grow _ _ _ _ h
    unfold rulesP at h
    cases N with
    | zero => omega
    | succ N =>
    rw [rulesP]
    cases h1 : overP l with
    | error e => rw [h1] at h; cases h
    | ok b =>
    rw [h1] at h
    cases b with
    | true =>
      simp only [Except.ok.injEq] at h ⊢
      rw [h]
    | false =>
    simp only at h ⊢
    cases h2 : ruleP rs.length l with
    | error e => rw [h2] at h; cases h
    | ok y =>
    obtain ⟨r, l2⟩ := y
    rw [h2] at h
    simp only at h
    have hlen : rs.length + 1 ≤ m.length := by
      cases h3 : overP l2 with
      | error e => rw [h3] at h; cases h
      | ok b =>
        rw [h3] at h
        cases b with
        | true => simp only [Except.ok.injEq] at h; rw [← h]; simp
        | false =>
          simp only at h
          cases h4 : past [59] l2 with
          | error e => rw [h4] at h; cases h
          | ok l3 => rw [h4] at h; have := rules_grow _ _ _ _ h; simpa using this
    rw [ruleP_any (by rw [List.length_append]; omega) h2]
    simp only
    cases h3 : overP l2 with
    | error e => rw [h3] at h; cases h
    | ok b =>
    rw [h3] at h
    cases b with
    | true =>
      simp only [Except.ok.injEq] at h ⊢
      rw [← h, List.append_assoc]
    | false =>
    simp only at h ⊢
    cases h4 : past [59] l2 with
    | error e => rw [h4] at h; cases h
    | ok l3 =>
    rw [h4] at h
    simp only at h ⊢
    rw [List.append_assoc]
    exact rules_pre n _ _ _ h p N hp (by rw [List.length_append]; simp; omega)
/-- The rules of two texts with a semicolon between them are the rules of both. -/
theorem parse_joins {s t : List Nat} {a b : List Rl} (hs : s.length ≤ 2000) (ht : t.length ≤ 2000) (ha : parse s = .ok a) (hb : parse t = .ok b) (hl : lastB s ≠ 59) (hn : a.length + b.length ≤ 16) : parse (s ++ 59 :: t) = .ok (a ++ b) := by
  unfold parse at ha hb ⊢
  rw [if_neg (by omega)] at ha hb
  rw [if_neg (by rw [List.length_append, List.length_cons]; omega)]
  obtain ⟨j, hj, hN⟩ := rules_semi _ _ _ _ ha hl
  simp at hj
  have h18 : (18 - j) + j = 18 := by omega
  have := hN (18 - j) t
  rw [h18] at this
  rw [this]
  have := rules_pre _ _ _ _ hb a (18 - j) hn (by simp; omega)
  rwa [List.append_nil] at this
end Go.Proofs.YthhlmalpelgpeaaGreatDoor.Zq
