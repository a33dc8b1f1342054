/-
  G22: ZJ ZG, side by side.
-/
import Derived.Test.YthhlmalpelgpeaaGreatDoorG01

/-
  Rules, plain: what is read from a text is read from it with a semicolon and more behind it, too.
-/
namespace Go.Proofs.YthhlmalpelgpeaaGreatDoor.Zq

theorem take_stop {p : Nat → Bool} (hp : p 59 = false) (z : List Nat) : ∀ l : List Nat, (l ++ 59 :: z).takeWhile p = l.takeWhile p ∧ (l ++ 59 :: z).dropWhile p = l.dropWhile p ++ 59 :: z
  | [] => by simp [hp]
  | c :: r => by
    have := take_stop hp z r
    by_cases h : p c = true
    · simp [h, this.1, this.2]
    · simp [h]
theorem textP_cons (c : Nat) (r : List Nat) : textP (c :: r) = if 32 ≤ c ∧ c ≤ 126 then
      if c = 39 then some ([], r)
      else if c = 92 then
        match r with
        | [] => none
        | e :: q => if e = 39 ∨ e = 92 then (textP q).map fun x => (e :: x.1, x.2) else none
      else (textP r).map fun x => (c :: x.1, x.2)
    else none := by
  rw [textP.eq_def]
  rfl
theorem textP_more (z : List Nat) : ∀ (n : Nat) (l : List Nat), l.length ≤ n → ∀ t q, textP l = some (t, q) → q <:+ l ∧ textP (l ++ z) = some (t, q ++ z)
  | 0, [], _, t, q, h => by simp [textP] at h
  | _ + 1, [], _, t, q, h => by simp [textP] at h
  | n + 1, c :: r, hn, t, q, h => by
    rw [textP_cons] at h
    rw [List.cons_append, textP_cons]
    by_cases h1 : 32 ≤ c ∧ c ≤ 126
    · rw [if_pos h1] at h ⊢
      by_cases h2 : c = 39
      · rw [if_pos h2] at h ⊢
        simp at h
        obtain ⟨rfl, rfl⟩ := h
        exact ⟨List.suffix_cons _ _, rfl⟩
      rw [if_neg h2] at h ⊢
      by_cases h3 : c = 92
      · rw [if_pos h3] at h ⊢
        cases r with
        | nil => simp at h
        | cons e r =>
          simp only at h
          rw [List.cons_append]
          simp only
          by_cases h4 : e = 39 ∨ e = 92
          · rw [if_pos h4] at h ⊢
            obtain ⟨⟨a, b⟩, hab, h5⟩ := Option.map_eq_some_iff.1 h
            simp at h5
            obtain ⟨rfl, rfl⟩ := h5
            obtain ⟨i1, i2⟩ := textP_more z n r (by simp at hn; omega) a b hab
            exact ⟨i1.trans ((List.suffix_cons _ _).trans (List.suffix_cons _ _)), by rw [i2]; rfl⟩
          · rw [if_neg h4] at h; cases h
      · rw [if_neg h3] at h ⊢
        obtain ⟨⟨a, b⟩, hab, h5⟩ := Option.map_eq_some_iff.1 h
        simp at h5
        obtain ⟨rfl, rfl⟩ := h5
        obtain ⟨i1, i2⟩ := textP_more z n r (by simp at hn; omega) a b hab
        exact ⟨i1.trans (List.suffix_cons _ _), by rw [i2]; rfl⟩
    · rw [if_neg h1] at h; cases h
theorem skip_suffix (l : List Nat) : skip l <:+ l := List.dropWhile_suffix _
theorem skip_more (z : List Nat) (l : List Nat) : skip (l ++ 59 :: z) = skip l ++ 59 :: z := (take_stop rfl z l).2
/-- A token that is none is the end. -/
theorem next_fin {l q : List Nat} (h : next l = some (.fin, q)) : skip l = [] ∧ q = [] := by
  unfold next at h
  cases hs : skip l with
  | nil => rw [hs] at h; simp at h; exact ⟨rfl, h⟩
  | cons c r =>
    rw [hs] at h
    simp only at h
    split at h
    · split at h
      · cases h
      · simp at h
    · split at h
      · split at h
        · cases h
        · simp at h
      · split at h
        · obtain ⟨⟨a, b⟩, hab, h5⟩ := Option.map_eq_some_iff.1 h
          simp at h5
        · split at h
          · simp at h
          · split at h
            · simp at h
            · cases h
theorem next_end {l : List Nat} (h : skip l = []) : next l = some (.fin, []) := by unfold next; rw [h]
theorem next_semi {l z : List Nat} (h : skip l = []) : next (l ++ 59 :: z) = some (.sign [59], z) := by
  unfold next
  rw [skip_more, h]
  rfl
theorem next_more {l q : List Nat} {t : Tok} (h : next l = some (t, q)) : q <:+ l ∧ (t ≠ .fin → ∀ z, next (l ++ 59 :: z) = some (t, q ++ 59 :: z)) := by
  have hsk := skip_suffix l
  unfold next at h
  cases hs : skip l with
  | nil =>
    rw [hs] at h; simp at h
    obtain ⟨rfl, rfl⟩ := h
    exact ⟨List.nil_suffix, fun h => absurd rfl h⟩
  | cons c r =>
    rw [hs] at h hsk
    simp only at h
    have hr : r <:+ l := (List.suffix_cons _ _).trans hsk
    have e : ∀ z, next (l ++ 59 :: z) = _ := fun z => by unfold next; rw [skip_more, hs]
    by_cases h1 : low c = true
    · rw [if_pos h1] at h
      by_cases h2 : 32 < ((c :: r).takeWhile inName).length
      · rw [if_pos h2] at h; cases h
      · rw [if_neg h2] at h
        simp only [Option.some.injEq, Prod.mk.injEq] at h
        obtain ⟨rfl, rfl⟩ := h
        refine ⟨(List.dropWhile_suffix _).trans hsk, fun _ z => ?_⟩
        rw [e]
        simp only [List.cons_append]
        rw [if_pos h1, ← List.cons_append, (take_stop (p := inName) rfl z (c :: r)).1, (take_stop (p := inName) rfl z (c :: r)).2, if_neg h2]
    rw [if_neg h1] at h
    by_cases h2 : dig c = true
    · rw [if_pos h2] at h
      by_cases h3 : top < Uq.val ((c :: r).takeWhile dig) ∨ (c = 48 ∧ 1 < ((c :: r).takeWhile dig).length)
      · rw [if_pos h3] at h; cases h
      · rw [if_neg h3] at h
        simp only [Option.some.injEq, Prod.mk.injEq] at h
        obtain ⟨rfl, rfl⟩ := h
        refine ⟨(List.dropWhile_suffix _).trans hsk, fun _ z => ?_⟩
        rw [e]
        simp only [List.cons_append]
        rw [if_neg h1, if_pos h2, ← List.cons_append, (take_stop (p := dig) rfl z (c :: r)).1, (take_stop (p := dig) rfl z (c :: r)).2, if_neg h3]
    rw [if_neg h2] at h
    by_cases h3 : c = 39
    · rw [if_pos h3] at h
      obtain ⟨⟨a, b⟩, hab, h5⟩ := Option.map_eq_some_iff.1 h
      simp only [Prod.mk.injEq] at h5
      obtain ⟨rfl, rfl⟩ := h5
      refine ⟨(textP_more [] _ r (Nat.le_refl _) a b hab).1.trans hr, fun _ z => ?_⟩
      rw [e]
      simp only [List.cons_append]
      rw [if_neg h1, if_neg h2, if_pos h3, (textP_more (59 :: z) _ r (Nat.le_refl _) a b hab).2]
      rfl
    rw [if_neg h3] at h
    by_cases h4 : c = 61 ∧ r.head? = some 61
    · rw [if_pos h4] at h
      simp only [Option.some.injEq, Prod.mk.injEq] at h
      obtain ⟨rfl, rfl⟩ := h
      obtain ⟨rfl, h5⟩ := h4
      cases r with
      | nil => simp at h5
      | cons x r =>
        simp at h5
        subst h5
        refine ⟨(List.suffix_cons _ _).trans hr, fun _ z => ?_⟩
        rw [e]
        rfl
    rw [if_neg h4] at h
    by_cases h5 : c ∈ signs
    · rw [if_pos h5] at h
      simp only [Option.some.injEq, Prod.mk.injEq] at h
      obtain ⟨rfl, rfl⟩ := h
      refine ⟨hr, fun _ z => ?_⟩
      rw [e]
      simp only [List.cons_append]
      rw [if_neg h1, if_neg h2, if_neg h3, if_neg, if_pos h5]
      rintro ⟨h6, h7⟩
      refine h4 ⟨h6, ?_⟩
      cases r with
      | nil => simp at h7
      | cons x r => simpa using h7
    · rw [if_neg h5] at h; cases h
theorem isTok_fin (s : List Nat) : isTok .fin s = false := by simp [isTok]
theorem isTok_semi {s : List Nat} (h : s ≠ [59]) : isTok (.sign [59]) s = false := by simp [isTok]; exact fun e => h e.symm
theorem isP_more {s l : List Nat} {b : Bool} (hs : s ≠ [59]) (h : isP s l = .ok b) (z : List Nat) : isP s (l ++ 59 :: z) = .ok b := by
  unfold isP at h ⊢
  cases hn : next l with
  | none => rw [hn] at h; cases h
  | some x =>
    obtain ⟨t, q⟩ := x
    rw [hn] at h
    simp only at h
    by_cases ht : t = .fin
    · subst ht
      rw [next_semi (next_fin hn).1]
      simp only
      rw [isTok_fin] at h
      rw [isTok_semi hs]
      exact h
    · rw [(next_more hn).2 ht z]
      exact h
theorem past_more {s l q : List Nat} (h : past s l = .ok q) : q <:+ l ∧ ∀ z, past s (l ++ 59 :: z) = .ok (q ++ 59 :: z) := by
  unfold past at h ⊢
  cases hn : next l with
  | none => rw [hn] at h; cases h
  | some x =>
    obtain ⟨t, r⟩ := x
    rw [hn] at h
    simp only at h
    by_cases hi : isTok t s = true
    · rw [if_pos hi] at h
      injection h with h
      subst h
      have ht : t ≠ .fin := fun e => by rw [e, isTok_fin] at hi; cases hi
      refine ⟨(next_more hn).1, fun z => ?_⟩
      rw [(next_more hn).2 ht z]
      simp only
      rw [if_pos hi]
    · rw [if_neg hi] at h; cases h
theorem nameP_more {l q t : List Nat} (h : nameP l = .ok (t, q)) : q <:+ l ∧ ∀ z, nameP (l ++ 59 :: z) = .ok (t, q ++ 59 :: z) := by
  unfold nameP at h ⊢
  cases hn : next l with
  | none => rw [hn] at h; cases h
  | some x =>
    obtain ⟨k, r⟩ := x
    rw [hn] at h
    cases k with
    | name y =>
      simp only at h
      injection h with h
      simp only [Prod.mk.injEq] at h
      obtain ⟨rfl, rfl⟩ := h
      refine ⟨(next_more hn).1, fun z => ?_⟩
      rw [(next_more hn).2 (by simp) z]
    | _ => simp at h
theorem opsAt_semi (k : Nat) : ∀ w ∈ opsAt k, w.1 ≠ [59] := by
  intro w hw
  unfold opsAt at hw
  split at hw <;> simp at hw
  all_goals (try (rcases hw with rfl | rfl | rfl <;> decide))
  all_goals (subst hw; decide)
theorem operP_more {k : Nat} {l q : List Nat} {op : Int} (h : operP k l = .ok (op, q)) : q <:+ l ∧ ∀ z, operP k (l ++ 59 :: z) = .ok (op, q ++ 59 :: z) := by
  unfold operP at h ⊢
  by_cases h0 : opsAt k = []
  · rw [if_pos h0] at h
    simp only [Except.ok.injEq, Prod.mk.injEq] at h
    obtain ⟨rfl, rfl⟩ := h
    exact ⟨List.suffix_refl _, fun z => by rw [if_pos h0]⟩
  rw [if_neg h0] at h
  cases hn : next l with
  | none => rw [hn] at h; cases h
  | some x =>
    obtain ⟨t, r⟩ := x
    rw [hn] at h
    simp only at h
    cases hf : (opsAt k).find? (fun w => isTok t w.1) with
    | some w =>
      rw [hf] at h
      simp only [Except.ok.injEq, Prod.mk.injEq] at h
      obtain ⟨rfl, rfl⟩ := h
      have ht : t ≠ .fin := fun e => by
        have := List.find?_some hf
        rw [e, isTok_fin] at this; cases this
      refine ⟨(next_more hn).1, fun z => ?_⟩
      rw [if_neg h0, (next_more hn).2 ht z]
      simp only
      rw [hf]
    | none =>
      rw [hf] at h
      simp only [Except.ok.injEq, Prod.mk.injEq] at h
      obtain ⟨rfl, rfl⟩ := h
      refine ⟨List.suffix_refl _, fun z => ?_⟩
      rw [if_neg h0]
      by_cases ht : t = .fin
      · subst ht
        rw [next_semi (next_fin hn).1]
        simp only
        have : (opsAt k).find? (fun w => isTok (.sign [59]) w.1) = none := by
          rw [List.find?_eq_none]
          intro w hw
          rw [isTok_semi (opsAt_semi k w hw)]
          exact Bool.false_ne_true
        rw [this]
      · rw [(next_more hn).2 ht z]
        simp only
        rw [hf]
/-- What is read is read with more behind it, too. -/
def More (f : PS) : Prop := ∀ l ns x l' ns', f (l, ns) = .ok (x, (l', ns')) → l' <:+ l ∧ ∀ z, f (l ++ 59 :: z, ns) = .ok (x, (l' ++ 59 :: z, ns'))
theorem add_more (n : Nd) : More (add n) := by
  intro l ns x l' ns' h
  unfold add at h ⊢
  simp only at h ⊢
  split at h
  · cases h
  · rename_i hn
    simp only [Except.ok.injEq, Prod.mk.injEq] at h
    obtain ⟨rfl, rfl, rfl⟩ := h
    exact ⟨List.suffix_refl _, fun z => by rw [if_neg hn]⟩
end Go.Proofs.YthhlmalpelgpeaaGreatDoor.Zq

/-
  Rules, plain: the kinds of tokens by number; one level's reading step by step.
-/
namespace Go.Proofs.YthhlmalpelgpeaaGreatDoor.Zq

/-! Kinds. -/
def kinds : List (List Nat × Nat) := [([36], 5), ([40], 6), ([41], 7), ([44], 8), ([59], 9), ([61], 10), ([61, 61], 11), ([60], 12), ([43], 13), (wWhen, 15), (wDeny, 16), (wOr, 17), (wAnd, 18), (wNot, 19), (wIn, 20), (wElse, 21), (wLower, 22), (wFirst, 23), (wHead, 24), (wTail, 25), (wHas, 26), (wStarts, 27)]
def kOf (t : Tok) : Nat :=
  match kinds.find? (fun p => isTok t p.1) with
  | some p => p.2
  | none => match t with | .fin => 2 | .text _ => 3 | .num _ => 4 | .name _ => 14 | .sign _ => 1
def kText : Tok → List Nat
  | .name x => x
  | .text x => x
  | _ => []
def kNum : Tok → Nat
  | .num n => n
  | _ => 0
theorem isTok_name (x s : List Nat) : isTok (.name x) s = decide (x = s) := by simp [isTok]
theorem isTok_sign (x s : List Nat) : isTok (.sign x) s = decide (x = s) := by simp [isTok]
theorem find_keys (x : List Nat) (h : x ∉ kinds.map (·.1)) : kinds.find? (fun p => decide (x = p.1)) = none := by
  rw [List.find?_eq_none]
  intro p hp
  simp only [decide_eq_true_eq]
  rintro rfl
  exact h (List.mem_map.2 ⟨p, hp, rfl⟩)
theorem kOf_name (x : List Nat) : kOf (.name x) = match kinds.find? (fun p => decide (x = p.1)) with | some p => p.2 | none => 14 := by
  unfold kOf
  simp only [isTok_name]
theorem kOf_sign (x : List Nat) : kOf (.sign x) = match kinds.find? (fun p => decide (x = p.1)) with | some p => p.2 | none => 1 := by
  unfold kOf
  simp only [isTok_sign]
theorem kOf_fin : kOf .fin = 2 := rfl
theorem kOf_text (x : List Nat) : kOf (.text x) = 3 := rfl
theorem kOf_num (n : Nat) : kOf (.num n) = 4 := rfl
theorem keys_ne : ∀ p ∈ kinds, p.2 ≠ 14 ∧ p.2 ≠ 1 ∧ p.2 ≠ 2 ∧ p.2 ≠ 3 ∧ p.2 ≠ 4 ∧ p.2 < 28 := by decide
set_option maxRecDepth 100000 in
theorem key_self : ∀ x ∈ kinds.map (·.1), ∀ p ∈ kinds, decide (x = p.1) = decide ((match kinds.find? (fun q => decide (x = q.1)) with | some q => q.2 | none => 14) = p.2) := by decide
set_option maxRecDepth 100000 in
theorem key_self1 : ∀ x ∈ kinds.map (·.1), ∀ p ∈ kinds, decide (x = p.1) = decide ((match kinds.find? (fun q => decide (x = q.1)) with | some q => q.2 | none => 1) = p.2) := by decide
theorem isTok_kOf {s : List Nat} {n : Nat} (h : (s, n) ∈ kinds) (t : Tok) : isTok t s = decide (kOf t = n) := by
  obtain ⟨h1, h2, h3, h4, h5, _⟩ := keys_ne _ h
  simp only at h1 h2 h3 h4 h5
  cases t with
  | fin => rw [kOf_fin, decide_eq_false (fun e => h3 e.symm)]; rfl
  | text x => rw [kOf_text, decide_eq_false (fun e => h4 e.symm)]; simp [isTok]
  | num x => rw [kOf_num, decide_eq_false (fun e => h5 e.symm)]; simp [isTok]
  | name x =>
    rw [isTok_name, kOf_name]
    by_cases hx : x ∈ kinds.map (·.1)
    · exact key_self x hx (s, n) h
    · rw [find_keys x hx]
      show decide (x = s) = decide (14 = n)
      rw [decide_eq_false (p := x = s) (by rintro rfl; exact hx (List.mem_map.2 ⟨_, h, rfl⟩)), decide_eq_false (p := 14 = n) (fun e => h1 e.symm)]
  | sign x =>
    rw [isTok_sign, kOf_sign]
    by_cases hx : x ∈ kinds.map (·.1)
    · exact key_self1 x hx (s, n) h
    · rw [find_keys x hx]
      show decide (x = s) = decide (1 = n)
      rw [decide_eq_false (p := x = s) (by rintro rfl; exact hx (List.mem_map.2 ⟨_, h, rfl⟩)), decide_eq_false (p := 1 = n) (fun e => h2 e.symm)]
theorem isTok_iff {s : List Nat} {n : Nat} (h : (s, n) ∈ kinds) {t : Tok} : isTok t s = true ↔ kOf t = n := by
  rw [isTok_kOf h, decide_eq_true_iff]
/-- A token's kind is one of these. -/
theorem kOf_lt (t : Tok) : kOf t < 28 ∧ 1 ≤ kOf t := by
  have key : ∀ p ∈ kinds, p.2 < 28 ∧ 1 ≤ p.2 := by decide
  unfold kOf
  cases hf : kinds.find? (fun p => isTok t p.1) with
  | some p => exact key p (List.mem_of_find?_eq_some hf)
  | none => cases t <;> simp
theorem mem_run (p : Nat → Bool) : ∀ (l : List Nat) (y : Nat), y ∈ l.takeWhile p → p y = true
  | [], y, h => by simp at h
  | c :: r, y, h => by
    by_cases hc : p c = true
    · rw [List.takeWhile_cons_of_pos hc] at h
      rcases List.mem_cons.1 h with rfl | h
      · exact hc
      · exact mem_run p r y h
    · rw [List.takeWhile_cons_of_neg hc] at h; simp at h
/-- Which kind a token that is read has. -/
theorem next_form {l q : List Nat} {t : Tok} (h : next l = some (t, q)) :
    (t = .fin) ∨ (∃ x, t = .text x) ∨ (∃ n, t = .num n ∧ n ≤ top) ∨ (∃ x, t = .sign x ∧ (x = [61, 61] ∨ ∃ c ∈ signs, x = [c])) ∨ (∃ c r, t = .name (c :: r) ∧ low c = true ∧ (∀ y ∈ c :: r, inName y = true) ∧ (c :: r).length ≤ 32) := by
  unfold next at h
  cases hs : skip l with
  | nil => rw [hs] at h; simp at h; exact .inl h.1.symm
  | cons c r =>
    rw [hs] at h
    simp only at h
    split at h
    · rename_i hlow
      split at h
      · cases h
      · rename_i h32
        simp only [Option.some.injEq, Prod.mk.injEq] at h
        have hin : inName c = true := by unfold inName; rw [hlow]; rfl
        obtain ⟨rfl, _⟩ := h
        rw [List.takeWhile_cons_of_pos hin] at h32 ⊢
        refine .inr (.inr (.inr (.inr ⟨c, _, rfl, hlow, fun y hy => ?_, by omega⟩)))
        rcases List.mem_cons.1 hy with rfl | hy
        · exact hin
        · exact mem_run _ _ _ hy
    · split at h
      · split at h
        · cases h
        · rename_i hn
          simp only [Option.some.injEq, Prod.mk.injEq] at h
          exact .inr (.inr (.inl ⟨_, h.1.symm, by omega⟩))
      · split at h
        · obtain ⟨⟨a, b⟩, hab, h5⟩ := Option.map_eq_some_iff.1 h
          simp only [Prod.mk.injEq] at h5
          exact .inr (.inl ⟨_, h5.1.symm⟩)
        · split at h
          · simp only [Option.some.injEq, Prod.mk.injEq] at h
            exact .inr (.inr (.inr (.inl ⟨_, h.1.symm, .inl rfl⟩)))
          · split at h
            · rename_i hm
              simp only [Option.some.injEq, Prod.mk.injEq] at h
              exact .inr (.inr (.inr (.inl ⟨_, h.1.symm, .inr ⟨c, hm, rfl⟩⟩)))
            · cases h
/-- A token that is read has no kind of one that is none. -/
theorem next_good {l q : List Nat} {t : Tok} (h : next l = some (t, q)) : kOf t ≠ 1 ∧ 2 ≤ kOf t := by
  have hs : ∀ c ∈ signs, kOf (.sign [c]) ≠ 1 := by decide
  have hlt := (kOf_lt t).2
  have hne : kOf t ≠ 1 := by
    rcases next_form h with rfl | ⟨x, rfl⟩ | ⟨n, rfl, _⟩ | ⟨x, rfl, rfl | ⟨c, hc, rfl⟩⟩ | ⟨c, r, rfl, _⟩
    · decide
    · rw [kOf_text]; decide
    · rw [kOf_num]; decide
    · decide
    · exact hs c hc
    · rw [kOf_name]
      cases hf : kinds.find? (fun p => decide ((c :: r) = p.1)) with
      | some p => exact (keys_ne p (List.mem_of_find?_eq_some hf)).2.1
      | none => decide
  exact ⟨hne, by omega⟩
/-- A word's kind. -/
theorem kOf_word {c : Nat} {r : List Nat} (hc : low c = true) : 14 ≤ kOf (.name (c :: r)) := by
  rw [kOf_name]
  have key : ∀ p ∈ kinds, p.2 < 14 → ∀ c ∈ p.1.head?, low c = false := by decide
  cases hf : kinds.find? (fun p => decide ((c :: r) = p.1)) with
  | none => exact Nat.le_refl _
  | some p =>
    simp only
    rcases Nat.lt_or_ge p.2 14 with h | h
    · have h1 := of_decide_eq_true (List.find?_some (p := fun p : List Nat × Nat => decide ((c :: r) = p.1)) hf)
      have := key p (List.mem_of_find?_eq_some hf) h c (by rw [← h1]; simp)
      rw [this] at hc; cases hc
    · exact h
theorem kOf_nonword {l q : List Nat} {t : Tok} (h : next l = some (t, q)) : 14 ≤ kOf t ↔ ∃ x, t = .name x := by
  have hs : ∀ c ∈ signs, kOf (.sign [c]) < 14 := by decide
  constructor
  · intro hk
    rcases next_form h with rfl | ⟨x, rfl⟩ | ⟨n, rfl, _⟩ | ⟨x, rfl, rfl | ⟨c, hc, rfl⟩⟩ | ⟨c, r, rfl, _⟩
    · exact absurd hk (by decide)
    · rw [kOf_text] at hk; omega
    · rw [kOf_num] at hk; omega
    · exact absurd hk (by decide)
    · have := hs c hc; omega
    · exact ⟨_, rfl⟩
  · rintro ⟨x, rfl⟩
    rcases next_form h with h | ⟨x, h⟩ | ⟨n, h, _⟩ | ⟨x, h, _⟩ | ⟨c, r, h, hc, _⟩
    · cases h
    · cases h
    · cases h
    · cases h
    · injection h with h
      subst h
      exact kOf_word hc

/-! Steps. -/
theorem past_some {s : List Nat} {n : Nat} (h : (s, n) ∈ kinds) {l q : List Nat} {t : Tok} (ht : next l = some (t, q)) : past s l = if kOf t = n then .ok q else .error 111 := by
  unfold past
  rw [ht]
  simp only
  rw [isTok_kOf h]
  by_cases hk : kOf t = n
  · rw [decide_eq_true hk, if_pos hk, if_pos rfl]
  · rw [decide_eq_false hk, if_neg hk]; rfl
theorem past_none {s l : List Nat} (ht : next l = none) : past s l = .error 111 := by unfold past; rw [ht]
/-- The loop of a level with one operator. -/
theorem loop_none {f : PS} {k n : Nat} {left : Int} {l : List Nat} {ns : List Nd} (hk : opsAt k ≠ []) (ht : next l = none) : loop f k (n + 1) left (l, ns) = .error 111 := by
  rw [loop.eq_def]
  simp only [operP, if_neg hk, ht]
theorem loop_stop {f : PS} {k n m : Nat} {o left : Int} {w l q : List Nat} {ns : List Nd} {t : Tok} (hk : opsAt k = [(w, o)]) (hw : (w, m) ∈ kinds) (ht : next l = some (t, q)) (h : kOf t ≠ m) : loop f k (n + 1) left (l, ns) = .ok (left, (l, ns)) := by
  have h' : isTok t w = false := by rw [isTok_kOf hw, decide_eq_false h]
  rw [loop.eq_def]
  simp [operP, hk, ht, h']
theorem loop_on {f : PS} {k n m : Nat} {o left : Int} {w l q : List Nat} {ns : List Nd} {t : Tok} (hk : opsAt k = [(w, o)]) (hk3 : k ≠ 3) (ho : o ≠ 0) (hw : (w, m) ∈ kinds) (ht : next l = some (t, q)) (h : kOf t = m) :
    loop f k (n + 1) left (l, ns) = match f (q, ns) with
      | .error e => .error e
      | .ok (right, s2) => match add ⟨o, 0, left, right, []⟩ s2 with
        | .error e => .error e
        | .ok (i, s3) => loop f k n i s3 := by
  have h' : isTok t w = true := by rw [isTok_kOf hw, decide_eq_true h]
  rw [loop.eq_def]
  simp [operP, hk, ht, h', ho, hk3]
  cases f (q, ns) with
  | error e => rfl
  | ok x =>
    obtain ⟨r, s2⟩ := x
    simp only
    cases add ⟨o, 0, left, r, []⟩ s2 <;> rfl
/-- The Op of a comparison's sign. -/
def cmpOp (k : Nat) : Int := if k = 11 then 10 else if k = 12 then 11 else if k = 20 then 12 else 0
theorem cmp_stop {f : PS} {n : Nat} {left : Int} {l q : List Nat} {ns : List Nd} {t : Tok} (ht : next l = some (t, q)) (h : cmpOp (kOf t) = 0) : loop f 3 (n + 1) left (l, ns) = .ok (left, (l, ns)) := by
  have h1 : isTok t [61, 61] = false := by rw [isTok_kOf (n := 11) (by decide), decide_eq_false]; intro e; rw [e] at h; cases h
  have h2 : isTok t [60] = false := by rw [isTok_kOf (n := 12) (by decide), decide_eq_false]; intro e; rw [e] at h; cases h
  have h3 : isTok t wIn = false := by rw [isTok_kOf (n := 20) (by decide), decide_eq_false]; intro e; rw [e] at h; cases h
  rw [loop.eq_def]
  simp [operP, opsAt, ht, h1, h2, h3]
theorem cmp_on {f : PS} {n : Nat} {left : Int} {l q : List Nat} {ns : List Nd} {t : Tok} (ht : next l = some (t, q)) (h : cmpOp (kOf t) ≠ 0) :
    loop f 3 (n + 1) left (l, ns) = match f (q, ns) with
      | .error e => .error e
      | .ok (right, s2) => add ⟨cmpOp (kOf t), 0, left, right, []⟩ s2 := by
  have key : operP 3 l = .ok (cmpOp (kOf t), q) := by
    have h1 := isTok_kOf (s := [61, 61]) (n := 11) (by decide) t
    have h2 := isTok_kOf (s := [60]) (n := 12) (by decide) t
    have h3 := isTok_kOf (s := wIn) (n := 20) (by decide) t
    unfold operP
    rw [if_neg (by decide), ht]
    unfold cmpOp at h ⊢
    by_cases e1 : kOf t = 11
    · simp [opsAt, h1, e1]
    by_cases e2 : kOf t = 12
    · simp [opsAt, h1, h2, e2]
    by_cases e3 : kOf t = 20
    · simp [opsAt, h1, h2, h3, e3]
    · rw [if_neg e1, if_neg e2, if_neg e3] at h; exact absurd rfl h
  rw [loop.eq_def]
  simp only [key, if_neg h]
  cases f (q, ns) with
  | error e => rfl
  | ok x =>
    obtain ⟨r, s2⟩ := x
    simp only
    cases add ⟨cmpOp (kOf t), 0, left, r, []⟩ s2 <;> simp
end Go.Proofs.YthhlmalpelgpeaaGreatDoor.Zq
