/-
  QP: PM UM, side by side.
-/

/-
  Pairs, plain: escaping, unescaping, parts and pairs, as functions on lists of numbers.
-/
namespace Go.Proofs.YtnbaajdcakjlmaaDoor.Pq

/-- Does a byte stay as it is? -/
def pl (c : Nat) : Bool := (decide (65 ≤ c) && decide (c ≤ 90)) || (decide (97 ≤ c) && decide (c ≤ 122)) || (decide (48 ≤ c) && decide (c ≤ 57)) || c == 45 || c == 46 || c == 95 || c == 126
theorem pl_iff (c : Nat) : pl c = true ↔ (65 ≤ c ∧ c ≤ 90) ∨ (97 ≤ c ∧ c ≤ 122) ∨ (48 ≤ c ∧ c ≤ 57) ∨ c = 45 ∨ c = 46 ∨ c = 95 ∨ c = 126 := by
  simp [pl, or_assoc]
theorem pl_no (c : Nat) : pl c = false ↔ ¬ ((65 ≤ c ∧ c ≤ 90) ∨ (97 ≤ c ∧ c ≤ 122) ∨ (48 ≤ c ∧ c ≤ 57) ∨ c = 45 ∨ c = 46 ∨ c = 95 ∨ c = 126) := by
  rw [← pl_iff]; simp
/-- A hexadecimal sign. -/
def hx (n : Nat) : Nat := if n < 10 then 48 + n else 55 + n
/-- A sign's value; 16: it is none. -/
def hv (c : Nat) : Nat := if 48 ≤ c ∧ c ≤ 57 then c - 48 else if 65 ≤ c ∧ c ≤ 70 then c - 55 else if 97 ≤ c ∧ c ≤ 102 then c - 87 else 16
theorem hv_le (c : Nat) : hv c ≤ 16 := by unfold hv; split; omega; split; omega; split <;> omega
theorem hx_lt (n : Nat) (h : n < 16) : hx n < 256 := by unfold hx; split <;> omega
theorem hv_hx : ∀ n, n < 16 → hv (hx n) = n := by decide
theorem hx_plain : ∀ n, n < 16 → pl (hx n) = true := by decide

def e1 (c : Nat) : List Nat := if pl c then [c] else [37, hx (c / 16), hx (c % 16)]
/-- Escaped. -/
def es (l : List Nat) : List Nat := l.flatMap e1
theorem es_nil : es [] = [] := rfl
theorem es_cons (c : Nat) (l : List Nat) : es (c :: l) = e1 c ++ es l := rfl
theorem es_append (l m : List Nat) : es (l ++ m) = es l ++ es m := by simp [es]
theorem es_one (c : Nat) : es [c] = e1 c := by simp [es]
theorem e1_yes {c : Nat} (h : pl c = true) : e1 c = [c] := by simp [e1, h]
theorem e1_no {c : Nat} (h : pl c = false) : e1 c = [37, hx (c / 16), hx (c % 16)] := by simp [e1, h]
theorem e1_lt {c : Nat} (h : c < 256) : ∀ x ∈ e1 c, x < 256 := by
  intro x hx'
  unfold e1 at hx'
  split at hx'
  · simp at hx'; omega
  · simp at hx'
    rcases hx' with rfl | rfl | rfl
    · omega
    · exact hx_lt _ (by omega)
    · exact hx_lt _ (by omega)
theorem e1_length (c : Nat) : (e1 c).length ≤ 3 := by unfold e1; split <;> simp
theorem es_lt {l : List Nat} (h : ∀ x ∈ l, x < 256) : ∀ x ∈ es l, x < 256 := by
  intro x hx'
  simp only [es, List.mem_flatMap] at hx'
  obtain ⟨c, hc, hx'⟩ := hx'
  exact e1_lt (h c hc) x hx'
theorem es_length (l : List Nat) : (es l).length ≤ 3 * l.length := by
  induction l with
  | nil => simp [es_nil]
  | cons c l ih => rw [es_cons, List.length_append, List.length_cons]; have := e1_length c; omega
theorem es_take (l : List Nat) (k : Nat) (h : k < l.length) : es (l.take (k + 1)) = es (l.take k) ++ e1 (l.getD k 0) := by
  rw [List.take_succ_eq_append_getElem h, es_append, es_one]
  simp [List.getD_eq_getElem?_getD, List.getElem?_eq_getElem h]
/-- What is escaped holds neither & nor =. -/
theorem e1_free {c : Nat} (h : c < 256) : ∀ x ∈ e1 c, x ≠ 38 ∧ x ≠ 61 := by
  intro x hx'
  unfold e1 at hx'
  split at hx'
  · rename_i hp
    simp at hx'
    subst hx'
    rw [pl_iff] at hp
    omega
  · simp at hx'
    rcases hx' with rfl | rfl | rfl
    · omega
    · have := hx_plain (c / 16) (by omega); rw [pl_iff] at this; omega
    · have := hx_plain (c % 16) (by omega); rw [pl_iff] at this; omega
theorem es_free {l : List Nat} (h : ∀ x ∈ l, x < 256) : ∀ x ∈ es l, x ≠ 38 ∧ x ≠ 61 := by
  intro x hx'
  simp only [es, List.mem_flatMap] at hx'
  obtain ⟨c, hc, hx'⟩ := hx'
  exact e1_free (h c hc) x hx'

/-- Unescaped, or none. -/
def un (plus : Bool) : List Nat → Option (List Nat)
  | [] => some []
  | c :: r => if c = 37 then
      match r with
      | a :: b :: r' => if hv a < 16 ∧ hv b < 16 then (un plus r').map fun q => (hv a * 16 + hv b) :: q else none
      | _ => none
    else (un plus r).map fun q => (if c = 43 ∧ plus = true then 32 else c) :: q
theorem un_nil (plus : Bool) : un plus [] = some [] := by rw [un]
theorem un_plain (plus : Bool) {c : Nat} (r : List Nat) (h : c ≠ 37) : un plus (c :: r) = (un plus r).map fun q => (if c = 43 ∧ plus = true then 32 else c) :: q := by
  rw [un.eq_def]
  simp only [if_neg h]
theorem un_esc (plus : Bool) {a b : Nat} (r : List Nat) (ha : hv a < 16) (hb : hv b < 16) : un plus (37 :: a :: b :: r) = (un plus r).map fun q => (hv a * 16 + hv b) :: q := by
  rw [un, if_pos rfl]
  simp [ha, hb]
theorem un_bad (plus : Bool) {a b : Nat} (r : List Nat) (h : ¬ (hv a < 16 ∧ hv b < 16)) : un plus (37 :: a :: b :: r) = none := by
  rw [un, if_pos rfl]
  simp only [if_neg h]
theorem un_short (plus : Bool) {r : List Nat} (h : r.length < 2) : un plus (37 :: r) = none := by
  rw [un.eq_def]
  match r, h with
  | [], _ => rfl
  | [_], _ => rfl

/-- What was escaped is unescaped as it was. -/
theorem un_es (plus : Bool) (l : List Nat) (h : ∀ x ∈ l, x < 256) : un plus (es l) = some l := by
  induction l with
  | nil => rw [es_nil, un_nil]
  | cons c l ih =>
    have ih' := ih fun x hx' => h x (List.mem_cons_of_mem _ hx')
    have hc := h c (List.mem_cons_self ..)
    rw [es_cons]
    cases hp : pl c with
    | true =>
      rw [e1_yes hp, List.singleton_append, un_plain plus _ (by rw [pl_iff] at hp; omega), ih', if_neg (by rw [pl_iff] at hp; omega)]
      rfl
    | false =>
      rw [e1_no hp]
      show un plus (37 :: hx (c / 16) :: hx (c % 16) :: es l) = _
      rw [un_esc plus _ (by rw [hv_hx _ (by omega)]; omega) (by rw [hv_hx _ (by omega)]; omega), ih', hv_hx _ (by omega), hv_hx _ (by omega)]
      simp only [Option.map_some]
      congr 2
      omega

theorem un_lt (plus : Bool) : ∀ (n : Nat) (S q : List Nat), S.length ≤ n → (∀ x ∈ S, x < 256) → un plus S = some q → (∀ x ∈ q, x < 256) ∧ q.length ≤ S.length
  | n, [], q, _, _, h => by
    rw [un_nil] at h
    cases h
    exact ⟨(fun x hx' => by cases hx'), Nat.le_refl _⟩
  | 0, c :: r, q, hn, _, _ => by simp at hn
  | n + 1, c :: r, q, hn, hS, h => by
    simp only [List.length_cons] at hn
    by_cases hc : c = 37
    · subst hc
      match r, hn with
      | [], _ => rw [un_short plus (by decide)] at h; cases h
      | [_], _ => rw [un_short plus (by simp)] at h; cases h
      | a :: b :: r', hn =>
        by_cases hd : hv a < 16 ∧ hv b < 16
        · rw [un_esc plus _ hd.1 hd.2, Option.map_eq_some_iff] at h
          obtain ⟨q', hq', rfl⟩ := h
          have ih := un_lt plus n r' q' (by simp at hn; omega) (fun x hx' => hS x (by simp [hx'])) hq'
          refine ⟨fun x hx' => ?_, by simp; omega⟩
          rcases List.mem_cons.1 hx' with rfl | hx'
          · omega
          · exact ih.1 x hx'
        · rw [un_bad plus _ hd] at h; cases h
    · rw [un_plain plus _ hc, Option.map_eq_some_iff] at h
      obtain ⟨q', hq', rfl⟩ := h
      have ih := un_lt plus n r q' (by omega) (fun x hx' => hS x (by simp [hx'])) hq'
      refine ⟨fun x hx' => ?_, by simp; omega⟩
      rcases List.mem_cons.1 hx' with rfl | hx'
      · have := hS c (by simp)
        split <;> omega
      · exact ih.1 x hx'

/-- Up to j all is read, as T. -/
def Acc (plus : Bool) (S T : List Nat) (j : Nat) : Prop := un plus S = (un plus (S.drop j)).map fun q => T ++ q
theorem acc_start (plus : Bool) (S : List Nat) : Acc plus S [] 0 := by
  unfold Acc
  rw [List.drop_zero]
  cases un plus S <;> rfl
theorem drop_at (S : List Nat) {j : Nat} (h : j < S.length) : S.drop j = S.getD j 0 :: S.drop (j + 1) := by
  rw [List.drop_eq_getElem_cons h]
  simp [List.getD_eq_getElem?_getD, List.getElem?_eq_getElem h]
theorem acc_plain {plus : Bool} {S T : List Nat} {j : Nat} (h : Acc plus S T j) (hj : j < S.length) (hc : S.getD j 0 ≠ 37) : Acc plus S (T ++ [if S.getD j 0 = 43 ∧ plus = true then 32 else S.getD j 0]) (j + 1) := by
  unfold Acc at h ⊢
  rw [h, drop_at S hj, un_plain plus _ hc]
  cases un plus (S.drop (j + 1)) <;> simp
theorem drop_three (S : List Nat) {j : Nat} (h : j + 2 < S.length) : S.drop j = S.getD j 0 :: S.getD (j + 1) 0 :: S.getD (j + 2) 0 :: S.drop (j + 3) := by
  rw [drop_at S (by omega), drop_at S (j := j + 1) (by omega), drop_at S (j := j + 1 + 1) (by omega)]
theorem acc_esc {plus : Bool} {S T : List Nat} {j : Nat} (h : Acc plus S T j) (hj : j + 2 < S.length) (hc : S.getD j 0 = 37) (ha : hv (S.getD (j + 1) 0) < 16) (hb : hv (S.getD (j + 2) 0) < 16) :
    Acc plus S (T ++ [hv (S.getD (j + 1) 0) * 16 + hv (S.getD (j + 2) 0)]) (j + 3) := by
  unfold Acc at h ⊢
  rw [h, drop_three S hj, hc, un_esc plus _ ha hb]
  cases un plus (S.drop (j + 3)) <;> simp
theorem acc_bad {plus : Bool} {S T : List Nat} {j : Nat} (h : Acc plus S T j) (hj : j < S.length) (hc : S.getD j 0 = 37) (hn : ¬ (j + 2 < S.length ∧ hv (S.getD (j + 1) 0) < 16 ∧ hv (S.getD (j + 2) 0) < 16)) : un plus S = none := by
  unfold Acc at h
  rw [h]
  by_cases h2 : j + 2 < S.length
  · rw [drop_three S h2, hc, un_bad plus _ (fun hd => hn ⟨h2, hd⟩)]
    rfl
  · rw [drop_at S hj, hc, un_short plus (by rw [List.length_drop]; omega)]
    rfl
theorem acc_end {plus : Bool} {S T : List Nat} {j : Nat} (h : Acc plus S T j) (hj : S.length ≤ j) : un plus S = some T := by
  unfold Acc at h
  rw [h, List.drop_eq_nil_of_le hj, un_nil]
  simp

/-- A text parted at each &. -/
def parts : List Nat → List (List Nat)
  | [] => [[]]
  | c :: r => if c = 38 then [] :: parts r else match parts r with
    | [] => [[c]]
    | p :: ps => (c :: p) :: ps
theorem parts_ne (l : List Nat) : parts l ≠ [] := by
  cases l with
  | nil => simp [parts]
  | cons c r =>
    rw [parts]
    split
    · simp
    · split <;> simp
theorem parts_pos (l : List Nat) : 0 < (parts l).length := List.length_pos_iff.2 (parts_ne l)
theorem parts_append (s t : List Nat) : parts (s ++ 38 :: t) = parts s ++ parts t := by
  induction s with
  | nil => simp [parts]
  | cons c r ih =>
    rw [List.cons_append, parts, parts, ih]
    split
    · rfl
    · cases h : parts r with
      | nil => exact absurd h (parts_ne r)
      | cons p ps => rfl
theorem parts_free {l : List Nat} (h : ∀ x ∈ l, x ≠ 38) : parts l = [l] := by
  induction l with
  | nil => rfl
  | cons c r ih => rw [parts, if_neg (h c (by simp)), ih fun x hx' => h x (by simp [hx'])]
theorem parts_first {l : List Nat} (h : ∀ x ∈ l, x ≠ 38) (r : List Nat) : parts (l ++ 38 :: r) = l :: parts r := by
  rw [parts_append, parts_free h]; rfl
theorem parts_length_le (l : List Nat) : (parts l).length ≤ l.length + 1 := by
  induction l with
  | nil => simp [parts]
  | cons c r ih =>
    rw [parts]
    split
    · simp only [List.length_cons]; omega
    · split
      · simp
      · rename_i p ps hp; rw [hp] at ih; simp only [List.length_cons] at ih ⊢; omega
theorem parts_mem {l p : List Nat} (h : p ∈ parts l) : p.length ≤ l.length ∧ ∀ x ∈ p, x ∈ l := by
  induction l generalizing p with
  | nil => simp [parts] at h; subst h; exact ⟨Nat.le_refl _, fun x hx' => hx'⟩
  | cons c r ih =>
    rw [parts] at h
    split at h
    · rcases List.mem_cons.1 h with rfl | h
      · exact ⟨Nat.zero_le _, (fun x hx' => by cases hx')⟩
      · have := ih h; exact ⟨by simp; omega, fun x hx' => List.mem_cons_of_mem _ (this.2 x hx')⟩
    · split at h
      · rename_i hp; exact absurd hp (parts_ne r)
      · rename_i p' ps hp
        rcases List.mem_cons.1 h with rfl | h
        · have := ih (p := p') (by rw [hp]; simp)
          exact ⟨by simp; omega, fun x hx' => by
            rcases List.mem_cons.1 hx' with rfl | hx'
            · simp
            · exact List.mem_cons_of_mem _ (this.2 x hx')⟩
        · have := ih (p := p) (by rw [hp]; simp [h])
          exact ⟨by simp; omega, fun x hx' => List.mem_cons_of_mem _ (this.2 x hx')⟩

/-- Ahead of the first =, and behind it. -/
def front (l : List Nat) : List Nat := l.takeWhile (· != 61)
def behind (l : List Nat) : List Nat := l.drop ((front l).length + 1)
theorem front_le (l : List Nat) : (front l).length ≤ l.length := (List.takeWhile_prefix _).length_le
theorem front_take (l : List Nat) : l.take (front l).length = front l := (List.prefix_iff_eq_take.1 (List.takeWhile_prefix _)).symm
theorem front_eq {l a r : List Nat} (ha : ∀ x ∈ a, x ≠ 61) (h : l = a ++ 61 :: r) : front l = a ∧ behind l = r := by
  have h1 : front l = a := by
    subst h
    unfold front
    rw [List.takeWhile_append_of_pos (fun x hx' => by simpa using ha x hx')]
    simp
  refine ⟨h1, ?_⟩
  unfold behind
  rw [h1, h]
  simp
theorem front_none {l : List Nat} (h : ∀ x ∈ l, x ≠ 61) : front l = l ∧ behind l = [] := by
  have h1 : front l = l := by
    unfold front
    have := List.takeWhile_append_of_pos (p := (· != 61)) (l₁ := l) (l₂ := []) (fun x hx' => by simpa using h x hx')
    simpa using this
  refine ⟨h1, ?_⟩
  unfold behind
  rw [h1]
  exact List.drop_eq_nil_of_le (by omega)

/-- A part's pair, or none. -/
def pair (l : List Nat) : Option (List Nat × List Nat) :=
  match un true (front l), un true (behind l) with
  | some a, some b => some (a, b)
  | _, _ => none
theorem pair_mk {l a b : List Nat} (ha : un true (front l) = some a) (hb : un true (behind l) = some b) : pair l = some (a, b) := by simp [pair, ha, hb]
theorem pair_no1 {l : List Nat} (ha : un true (front l) = none) : pair l = none := by simp [pair, ha]
theorem pair_no2 {l : List Nat} (hb : un true (behind l) = none) : pair l = none := by unfold pair; rw [hb]; split <;> simp_all
/-- The pairs of parts, or none. -/
def pairsOf : List (List Nat) → Option (List (List Nat × List Nat))
  | [] => some []
  | p :: r => match pair p, pairsOf r with
    | some x, some y => some (x :: y)
    | _, _ => none
theorem pairsOf_length : ∀ {l : List (List Nat)} {y : List (List Nat × List Nat)}, pairsOf l = some y → y.length = l.length
  | [], y, h => by rw [pairsOf] at h; cases h; rfl
  | p :: r, y, h => by
    rw [pairsOf] at h
    split at h
    · rename_i x y' _ hy
      cases h
      simp [pairsOf_length hy]
    · cases h
theorem pairsOf_append (l m : List (List Nat)) : pairsOf (l ++ m) = match pairsOf l, pairsOf m with
    | some x, some y => some (x ++ y)
    | _, _ => none := by
  induction l with
  | nil => simp only [List.nil_append, pairsOf]; cases pairsOf m <;> rfl
  | cons p r ih =>
    rw [List.cons_append, pairsOf, pairsOf, ih]
    cases pair p <;> cases pairsOf r <;> cases pairsOf m <;> rfl
/-- One part more. -/
theorem pairsOf_take {l : List (List Nat)} {k : Nat} {y : List (List Nat × List Nat)} {x : List Nat × List Nat} (h : pairsOf (l.take k) = some y) (hk : k < l.length) (hx' : pair (l.getD k []) = some x) : pairsOf (l.take (k + 1)) = some (y ++ [x]) := by
  rw [List.take_succ_eq_append_getElem hk, pairsOf_append, h]
  have e : l[k] = l.getD k [] := by simp [List.getD_eq_getElem?_getD, List.getElem?_eq_getElem hk]
  simp only [pairsOf, e, hx']
theorem pairsOf_bad {l : List (List Nat)} {k : Nat} (hk : k < l.length) (hx' : pair (l.getD k []) = none) : pairsOf l = none := by
  have e : l[k] = l.getD k [] := by simp [List.getD_eq_getElem?_getD, List.getElem?_eq_getElem hk]
  have h1 : l = l.take k ++ (l[k] :: l.drop (k + 1)) := by rw [← List.drop_eq_getElem_cons hk, List.take_append_drop]
  rw [h1, pairsOf_append, pairsOf, e, hx']
  cases pairsOf (l.take k) <;> rfl

/-- The pairs of a text, or none. -/
def parse (S : List Nat) : Option (List (List Nat × List Nat)) :=
  if 4096 < S.length then none else if S = [] then some [] else if 32 < (parts S).length then none else pairsOf (parts S)
theorem parse_long {S : List Nat} (h : 4096 < S.length) : parse S = none := by simp [parse, h]
theorem parse_nil : parse [] = some [] := by simp [parse]
theorem parse_many {S : List Nat} (h : 32 < (parts S).length) (h0 : S ≠ []) : parse S = none := by
  unfold parse
  by_cases h4 : 4096 < S.length
  · rw [if_pos h4]
  · rw [if_neg h4, if_neg h0, if_pos h]
theorem parse_of {S : List Nat} (h : ¬ 4096 < S.length) (h0 : S ≠ []) (h1 : ¬ 32 < (parts S).length) : parse S = pairsOf (parts S) := by
  unfold parse; rw [if_neg h, if_neg h0, if_neg h1]
theorem parse_length {S : List Nat} {y : List (List Nat × List Nat)} (h : parse S = some y) : y.length ≤ 32 := by
  unfold parse at h
  split at h
  · cases h
  · split at h
    · cases h; decide
    · split at h
      · cases h
      · rw [pairsOf_length h]; omega

/-- A pair, written. -/
def pr1 (p : List Nat × List Nat) : List Nat := es p.1 ++ 61 :: es p.2
/-- Pairs, written. -/
def print (L : List (List Nat × List Nat)) : List Nat := [38].intercalate (L.map pr1)
theorem print_nil : print [] = [] := rfl
theorem print_one (p : List Nat × List Nat) : print [p] = pr1 p := by simp [print, List.intercalate]
theorem print_cons (p q : List Nat × List Nat) (L : List (List Nat × List Nat)) : print (p :: q :: L) = pr1 p ++ 38 :: print (q :: L) := by simp [print, List.intercalate]
theorem print_snoc (L : List (List Nat × List Nat)) (p : List Nat × List Nat) (h : L ≠ []) : print (L ++ [p]) = print L ++ 38 :: pr1 p := by
  induction L with
  | nil => exact absurd rfl h
  | cons a L ih =>
    cases L with
    | nil => rw [List.singleton_append, print_cons, print_one, print_one]
    | cons b L =>
      rw [List.cons_append, List.cons_append, print_cons, print_cons, ← List.cons_append, ih (by simp)]
      simp
/-- All bytes are bytes. -/
def Fine (L : List (List Nat × List Nat)) : Prop := ∀ p ∈ L, (∀ x ∈ p.1, x < 256) ∧ ∀ x ∈ p.2, x < 256
theorem pr1_lt {p : List Nat × List Nat} (h : (∀ x ∈ p.1, x < 256) ∧ ∀ x ∈ p.2, x < 256) : ∀ x ∈ pr1 p, x < 256 := by
  intro x hx'
  unfold pr1 at hx'
  rcases List.mem_append.1 hx' with h1 | h1
  · exact es_lt h.1 x h1
  · rcases List.mem_cons.1 h1 with rfl | h1
    · omega
    · exact es_lt h.2 x h1
theorem pr1_free {p : List Nat × List Nat} (h : (∀ x ∈ p.1, x < 256) ∧ ∀ x ∈ p.2, x < 256) : ∀ x ∈ pr1 p, x ≠ 38 := by
  intro x hx'
  unfold pr1 at hx'
  rcases List.mem_append.1 hx' with h1 | h1
  · exact (es_free h.1 x h1).1
  · rcases List.mem_cons.1 h1 with rfl | h1
    · omega
    · exact (es_free h.2 x h1).1
theorem pair_pr1 {p : List Nat × List Nat} (h : (∀ x ∈ p.1, x < 256) ∧ ∀ x ∈ p.2, x < 256) : pair (pr1 p) = some p := by
  obtain ⟨h1, h2⟩ := front_eq (l := pr1 p) (a := es p.1) (r := es p.2) (fun x hx' => (es_free h.1 x hx').2) rfl
  exact pair_mk (by rw [h1]; exact un_es true _ h.1) (by rw [h2]; exact un_es true _ h.2)
theorem parts_print {L : List (List Nat × List Nat)} (h : Fine L) (h0 : L ≠ []) : parts (print L) = L.map pr1 := by
  induction L with
  | nil => exact absurd rfl h0
  | cons p L ih =>
    have hp := h p (by simp)
    cases L with
    | nil => rw [print_one, parts_free (pr1_free hp)]; rfl
    | cons q L => rw [print_cons, parts_first (pr1_free hp), ih (fun x hx' => h x (List.mem_cons_of_mem _ hx')) (by simp)]; rfl
theorem pairsOf_pr {L : List (List Nat × List Nat)} (h : Fine L) : pairsOf (L.map pr1) = some L := by
  induction L with
  | nil => rfl
  | cons p L ih => rw [List.map_cons, pairsOf, pair_pr1 (h p (by simp)), ih fun x hx' => h x (List.mem_cons_of_mem _ hx')]
theorem pr1_ne (p : List Nat × List Nat) : pr1 p ≠ [] := by simp [pr1]
theorem print_ne {L : List (List Nat × List Nat)} (h0 : L ≠ []) : print L ≠ [] := by
  match L, h0 with
  | [p], _ => rw [print_one]; exact pr1_ne p
  | p :: q :: L, _ => rw [print_cons]; simp
/-- Pairs that were written are read as they were. -/
theorem parse_print {L : List (List Nat × List Nat)} (h : Fine L) (hn : L.length ≤ 32) (hl : (print L).length ≤ 4096) : parse (print L) = some L := by
  by_cases h0 : L = []
  · subst h0; rfl
  · rw [parse_of (by omega) (print_ne h0) (by rw [parts_print h h0, List.length_map]; omega), parts_print h h0, pairsOf_pr h]
theorem print_lt {L : List (List Nat × List Nat)} (h : Fine L) : ∀ x ∈ print L, x < 256 := by
  induction L with
  | nil => intro x hx'; cases hx'
  | cons p L ih =>
    have hp := h p (by simp)
    cases L with
    | nil => rw [print_one]; exact pr1_lt hp
    | cons q L =>
      rw [print_cons]
      intro x hx'
      rcases List.mem_append.1 hx' with h1 | h1
      · exact pr1_lt hp x h1
      · rcases List.mem_cons.1 h1 with rfl | h1
        · omega
        · exact ih (fun x hx' => h x (List.mem_cons_of_mem _ hx')) x h1

/-- The pairs of two texts with an & between them. -/
theorem parse_join {s t : List Nat} (hs : s ≠ []) (ht : t ≠ []) (hsl : s.length ≤ 2000) (htl : t.length ≤ 2000) :
    parse (s ++ 38 :: t) = match parse s, parse t with
      | some a, some b => if 32 < a.length + b.length then none else some (a ++ b)
      | _, _ => none := by
  have hlen : ¬ 4096 < (s ++ 38 :: t).length := by rw [List.length_append, List.length_cons]; omega
  have hne : s ++ 38 :: t ≠ [] := by simp
  have hp : (parts (s ++ 38 :: t)).length = (parts s).length + (parts t).length := by rw [parts_append, List.length_append]
  have h1 := parts_pos s
  have h2 := parts_pos t
  by_cases hm : 32 < (parts s).length + (parts t).length
  · rw [parse_many (by rw [hp]; exact hm) hne]
    cases ha : parse s with
    | none => rfl
    | some a =>
      cases hb : parse t with
      | none => rfl
      | some b =>
        have ha' : pairsOf (parts s) = some a := by
          unfold parse at ha
          rw [if_neg (by omega), if_neg hs] at ha
          split at ha
          · cases ha
          · exact ha
        have hb' : pairsOf (parts t) = some b := by
          unfold parse at hb
          rw [if_neg (by omega), if_neg ht] at hb
          split at hb
          · cases hb
          · exact hb
        simp only
        rw [if_pos (by rw [pairsOf_length ha', pairsOf_length hb']; exact hm)]
  · rw [parse_of hlen hne (by rw [hp]; exact hm), parts_append, pairsOf_append, parse_of (by omega) hs (by omega), parse_of (by omega) ht (by omega)]
    cases ha : pairsOf (parts s) with
    | none => rfl
    | some a =>
      cases hb : pairsOf (parts t) with
      | none => rfl
      | some b =>
        simp only
        rw [if_neg (by rw [pairsOf_length ha, pairsOf_length hb]; exact hm)]

/-- The first value of a name, and how many there are. -/
def first (L : List (List Nat × List Nat)) (n : List Nat) : List Nat := ((L.find? fun p => p.1 == n).map (·.2)).getD []
def many (L : List (List Nat × List Nat)) (n : List Nat) : Nat := L.countP fun p => p.1 == n
theorem many_le (L : List (List Nat × List Nat)) (n : List Nat) : many L n ≤ L.length := List.countP_le_length
theorem first_cons_yes {p : List Nat × List Nat} {n : List Nat} (L : List (List Nat × List Nat)) (h : p.1 = n) : first (p :: L) n = p.2 := by simp [first, h]
theorem first_cons_no {p : List Nat × List Nat} {n : List Nat} (L : List (List Nat × List Nat)) (h : p.1 ≠ n) : first (p :: L) n = first L n := by simp [first, h]
theorem many_cons_yes {p : List Nat × List Nat} {n : List Nat} (L : List (List Nat × List Nat)) (h : p.1 = n) : many (p :: L) n = many L n + 1 := by simp [many, h]
theorem many_cons_no {p : List Nat × List Nat} {n : List Nat} (L : List (List Nat × List Nat)) (h : p.1 ≠ n) : many (p :: L) n = many L n := by simp [many, h]
theorem many_snoc_yes {p : List Nat × List Nat} {n : List Nat} (L : List (List Nat × List Nat)) (h : p.1 = n) : many (L ++ [p]) n = many L n + 1 := by simp [many, h]
theorem many_snoc_no {p : List Nat × List Nat} {n : List Nat} (L : List (List Nat × List Nat)) (h : p.1 ≠ n) : many (L ++ [p]) n = many L n := by simp [many, h]
theorem first_snoc_old {n : List Nat} (L : List (List Nat × List Nat)) (p : List Nat × List Nat) (h : many L n ≠ 0) : first (L ++ [p]) n = first L n := by
  have : (L.find? fun p => p.1 == n).isSome = true := by
    rw [List.find?_isSome]
    have h' : 0 < L.countP fun p => p.1 == n := Nat.pos_of_ne_zero h
    exact List.countP_pos_iff.1 h'
  unfold first
  rw [List.find?_append]
  obtain ⟨x, hx'⟩ := Option.isSome_iff_exists.1 this
  rw [hx']; rfl
theorem find_none {n : List Nat} {L : List (List Nat × List Nat)} (h : many L n = 0) : (L.find? fun p => p.1 == n) = none := by
  rw [List.find?_eq_none]
  intro x hx'
  have := List.countP_eq_zero.1 h x hx'
  exact this
theorem first_none {n : List Nat} {L : List (List Nat × List Nat)} (h : many L n = 0) : first L n = [] := by
  unfold first; rw [find_none h]; rfl
theorem first_snoc_new {n : List Nat} (L : List (List Nat × List Nat)) {p : List Nat × List Nat} (h : many L n = 0) (hp : p.1 = n) : first (L ++ [p]) n = p.2 := by
  unfold first
  rw [List.find?_append, find_none h]
  simp [hp]
theorem first_snoc_no {n : List Nat} (L : List (List Nat × List Nat)) {p : List Nat × List Nat} (hp : p.1 ≠ n) : first (L ++ [p]) n = first L n := by
  unfold first
  rw [List.find?_append]
  cases (L.find? fun p => p.1 == n) <;> simp [hp]
end Go.Proofs.YtnbaajdcakjlmaaDoor.Pq

/-
  Addresses, plain: hosts, ports, paths, parsing and printing, as functions on lists of numbers.
-/
namespace Go.Proofs.YtnbaajdcakjlmaaDoor.Uq

/-- Ahead of the first b, and behind it. -/
def front (b : Nat) (l : List Nat) : List Nat := l.takeWhile (· != b)
def behind (b : Nat) (l : List Nat) : List Nat := l.drop ((front b l).length + 1)
theorem front_le (b : Nat) (l : List Nat) : (front b l).length ≤ l.length := (List.takeWhile_prefix _).length_le
theorem front_take (b : Nat) (l : List Nat) : l.take (front b l).length = front b l := (List.prefix_iff_eq_take.1 (List.takeWhile_prefix _)).symm
theorem front_mem {b : Nat} {l : List Nat} {x : Nat} (h : x ∈ front b l) : x ∈ l := List.mem_of_mem_take (by rw [front_take]; exact h)
theorem front_free (b : Nat) (l : List Nat) : ∀ x ∈ front b l, x ≠ b := by
  induction l with
  | nil => intro x h; cases h
  | cons c r ih =>
    intro x h
    unfold front at h ih
    rw [List.takeWhile_cons] at h
    split at h
    · rename_i hc
      rcases List.mem_cons.1 h with rfl | h
      · simpa using hc
      · exact ih x h
    · cases h
theorem front_eq {b : Nat} {l a r : List Nat} (ha : ∀ x ∈ a, x ≠ b) (h : l = a ++ b :: r) : front b l = a ∧ behind b l = r := by
  have h1 : front b l = a := by
    subst h
    unfold front
    rw [List.takeWhile_append_of_pos (fun x hx' => by simpa using ha x hx')]
    simp
  refine ⟨h1, ?_⟩
  unfold behind
  rw [h1, h]
  simp
theorem front_none {b : Nat} {l : List Nat} (h : ∀ x ∈ l, x ≠ b) : front b l = l ∧ behind b l = [] := by
  have h1 : front b l = l := by
    unfold front
    have := List.takeWhile_append_of_pos (p := (· != b)) (l₁ := l) (l₂ := []) (fun x hx' => by simpa using h x hx')
    simpa using this
  refine ⟨h1, ?_⟩
  unfold behind
  rw [h1]
  exact List.drop_eq_nil_of_le (by omega)
theorem take_free {b : Nat} {S : List Nat} {k : Nat} (h : ∀ j, j < k → S.getD j 0 ≠ b) (hk : k ≤ S.length) : ∀ x ∈ S.take k, x ≠ b := by
  intro x hx
  obtain ⟨j, hj, rfl⟩ := List.getElem_of_mem hx
  rw [List.length_take] at hj
  have := h j (by omega)
  rw [List.getD_eq_getElem?_getD, List.getElem?_eq_getElem (by omega)] at this
  simpa using this
theorem split_at' {S : List Nat} {k : Nat} (hk : k < S.length) : S = S.take k ++ S.getD k 0 :: S.drop (k + 1) := by
  have h := Pq.drop_at S hk
  rw [← h, List.take_append_drop]
/-- The first b lies at k. -/
theorem front_at {b : Nat} {S : List Nat} {k : Nat} (h : ∀ j, j < k → S.getD j 0 ≠ b) (hk : k < S.length) (hc : S.getD k 0 = b) : front b S = S.take k ∧ behind b S = S.drop (k + 1) :=
  front_eq (take_free h (by omega)) (by have := split_at' hk; rwa [hc] at this)
/-- There is none. -/
theorem front_out {b : Nat} {S : List Nat} (h : ∀ j, j < S.length → S.getD j 0 ≠ b) : front b S = S ∧ behind b S = [] :=
  front_none (by have := take_free h (Nat.le_refl _); rwa [List.take_of_length_le (Nat.le_refl _)] at this)

/-- A text parted at each b. -/
def parts (b : Nat) : List Nat → List (List Nat)
  | [] => [[]]
  | c :: r => if c = b then [] :: parts b r else match parts b r with
    | [] => [[c]]
    | p :: ps => (c :: p) :: ps
theorem parts_ne (b : Nat) (l : List Nat) : parts b l ≠ [] := by
  cases l with
  | nil => simp [parts]
  | cons c r =>
    rw [parts]
    split
    · simp
    · split <;> simp
theorem parts_pos (b : Nat) (l : List Nat) : 0 < (parts b l).length := List.length_pos_iff.2 (parts_ne b l)
theorem parts_append (b : Nat) (s t : List Nat) : parts b (s ++ b :: t) = parts b s ++ parts b t := by
  induction s with
  | nil => simp [parts]
  | cons c r ih =>
    rw [List.cons_append, parts, parts, ih]
    split
    · rfl
    · cases h : parts b r with
      | nil => exact absurd h (parts_ne b r)
      | cons p ps => rfl
theorem parts_free {b : Nat} {l : List Nat} (h : ∀ x ∈ l, x ≠ b) : parts b l = [l] := by
  induction l with
  | nil => rfl
  | cons c r ih => rw [parts, if_neg (h c (by simp)), ih fun x hx' => h x (by simp [hx'])]
theorem parts_first {b : Nat} {l : List Nat} (h : ∀ x ∈ l, x ≠ b) (r : List Nat) : parts b (l ++ b :: r) = l :: parts b r := by
  rw [parts_append, parts_free h]; rfl
theorem parts_length_le (b : Nat) (l : List Nat) : (parts b l).length ≤ l.length + 1 := by
  induction l with
  | nil => simp [parts]
  | cons c r ih =>
    rw [parts]
    split
    · simp only [List.length_cons]; omega
    · split
      · simp
      · rename_i p ps hp; rw [hp] at ih; simp only [List.length_cons] at ih ⊢; omega
theorem parts_mem {b : Nat} {l p : List Nat} (h : p ∈ parts b l) : p.length ≤ l.length ∧ ∀ x ∈ p, x ∈ l := by
  induction l generalizing p with
  | nil => simp [parts] at h; subst h; exact ⟨Nat.le_refl _, fun x hx' => hx'⟩
  | cons c r ih =>
    rw [parts] at h
    split at h
    · rcases List.mem_cons.1 h with rfl | h
      · exact ⟨Nat.zero_le _, (fun x hx' => by cases hx')⟩
      · have := ih h; exact ⟨by simp; omega, fun x hx' => List.mem_cons_of_mem _ (this.2 x hx')⟩
    · split at h
      · rename_i hp; exact absurd hp (parts_ne b r)
      · rename_i p' ps hp
        rcases List.mem_cons.1 h with rfl | h
        · have := ih (p := p') (by rw [hp]; simp)
          exact ⟨by simp; omega, fun x hx' => by
            rcases List.mem_cons.1 hx' with rfl | hx'
            · simp
            · exact List.mem_cons_of_mem _ (this.2 x hx')⟩
        · have := ih (p := p) (by rw [hp]; simp [h])
          exact ⟨by simp; omega, fun x hx' => List.mem_cons_of_mem _ (this.2 x hx')⟩
theorem seg_free {b : Nat} {S : List Nat} {f k : Nat} (h : ∀ j, f ≤ j → j < k → S.getD j 0 ≠ b) (hk : k ≤ S.length) : ∀ x ∈ (S.take k).drop f, x ≠ b := by
  intro x hx
  obtain ⟨j, hj, rfl⟩ := List.getElem_of_mem hx
  rw [List.length_drop, List.length_take] at hj
  have := h (f + j) (by omega) (by omega)
  rw [List.getD_eq_getElem?_getD, List.getElem?_eq_getElem (by omega)] at this
  simpa using this
theorem parts_step {b : Nat} {S : List Nat} {f k : Nat} (h : ∀ j, f ≤ j → j < k → S.getD j 0 ≠ b) (hfk : f ≤ k) (hk : k < S.length) (hc : S.getD k 0 = b) : parts b (S.drop f) = (S.take k).drop f :: parts b (S.drop (k + 1)) := by
  have e : S.drop f = (S.take k).drop f ++ b :: S.drop (k + 1) := by
    have h1 := Pq.drop_at S hk
    rw [hc] at h1
    rw [← h1]
    conv => lhs; rw [← List.take_append_drop k S]
    rw [List.drop_append_of_le_length (by rw [List.length_take]; omega)]
  rw [e]
  exact parts_first (seg_free h (by omega)) _

/-- Is it a character of a host's name? -/
def nc (c : Nat) : Bool := (decide (97 ≤ c) && decide (c ≤ 122)) || (decide (48 ≤ c) && decide (c ≤ 57)) || c == 45
theorem nc_iff (c : Nat) : nc c = true ↔ (97 ≤ c ∧ c ≤ 122) ∨ (48 ≤ c ∧ c ≤ 57) ∨ c = 45 := by simp [nc, or_assoc]
def NameOk (l : List Nat) : Prop := 1 ≤ l.length ∧ l.length ≤ 63 ∧ l.getD 0 0 ≠ 45 ∧ l.getD (l.length - 1) 0 ≠ 45 ∧ ∀ c ∈ l, nc c = true
instance (l : List Nat) : Decidable (NameOk l) := inferInstanceAs (Decidable (_ ∧ _))
/-- Is it one of a host's names? -/
def nameOk (l : List Nat) : Bool := decide (NameOk l)

/-- The number that digits say. -/
def val (l : List Nat) : Nat := l.foldl (fun n c => n * 10 + (c - 48)) 0
theorem val_snoc (l : List Nat) (c : Nat) : val (l ++ [c]) = val l * 10 + (c - 48) := by simp [val]
def Digits (l : List Nat) : Prop := ∀ c ∈ l, 48 ≤ c ∧ c ≤ 57
instance (l : List Nat) : Decidable (Digits l) := inferInstanceAs (Decidable (∀ c ∈ l, _))
def NumOk (l : List Nat) : Prop := 1 ≤ l.length ∧ l.length ≤ 5 ∧ l.getD 0 0 ≠ 48 ∧ Digits l ∧ val l ≤ 65535
instance (l : List Nat) : Decidable (NumOk l) := inferInstanceAs (Decidable (_ ∧ _))
/-- Is it a host's number? -/
def numOk (l : List Nat) : Bool := decide (NumOk l)

/-- Is it a host? -/
def HostOk (l : List Nat) : Prop := l.length ≤ 253 ∧ ((front 58 l).length < l.length → numOk (behind 58 l) = true) ∧ ∀ p ∈ parts 46 (front 58 l), nameOk p = true
instance (l : List Nat) : Decidable (HostOk l) := inferInstanceAs (Decidable (_ ∧ _))
def hostOk (l : List Nat) : Bool := decide (HostOk l)

/-- An upper-case hexadecimal sign? -/
def up (c : Nat) : Bool := (decide (48 ≤ c) && decide (c ≤ 57)) || (decide (65 ≤ c) && decide (c ≤ 70))
theorem up_iff (c : Nat) : up c = true ↔ (48 ≤ c ∧ c ≤ 57) ∨ (65 ≤ c ∧ c ≤ 70) := by simp [up]
/-- Are these characters and whole escapes of a path? -/
def pathRest : List Nat → Bool
  | [] => true
  | c :: r => if c = 37 then
      match r with
      | a :: b :: r' => up a && up b && pathRest r'
      | _ => false
    else (c == 47 || Pq.pl c) && pathRest r
theorem pathRest_nil : pathRest [] = true := by rw [pathRest]
theorem pathRest_yes {c : Nat} (r : List Nat) (h : c = 47 ∨ Pq.pl c = true) : pathRest (c :: r) = pathRest r := by
  have h37 : c ≠ 37 := by
    rcases h with h | h
    · omega
    · rw [Pq.pl_iff] at h; omega
  rw [pathRest.eq_def]
  simp only [if_neg h37]
  have : (c == 47 || Pq.pl c) = true := by
    rcases h with h | h
    · simp [h]
    · simp [h]
  rw [this, Bool.true_and]
theorem pathRest_no {c : Nat} (r : List Nat) (h37 : c ≠ 37) (h : ¬ (c = 47 ∨ Pq.pl c = true)) : pathRest (c :: r) = false := by
  rw [pathRest.eq_def]
  simp only [if_neg h37]
  have : (c == 47 || Pq.pl c) = false := by
    simp only [not_or] at h
    simp [h.1, h.2]
  rw [this, Bool.false_and]
theorem pathRest_esc {a b : Nat} (r : List Nat) (ha : up a = true) (hb : up b = true) : pathRest (37 :: a :: b :: r) = pathRest r := by
  rw [pathRest, if_pos rfl]
  simp [ha, hb]
theorem pathRest_bad {a b : Nat} (r : List Nat) (h : ¬ (up a = true ∧ up b = true)) : pathRest (37 :: a :: b :: r) = false := by
  rw [pathRest, if_pos rfl]
  cases ha : up a <;> cases hb : up b <;> simp_all
theorem pathRest_short {r : List Nat} (h : r.length < 2) : pathRest (37 :: r) = false := by
  rw [pathRest.eq_def]
  match r, h with
  | [], _ => rfl
  | [_], _ => rfl
theorem rest_yes {S : List Nat} {j : Nat} (hj : j < S.length) (h : S.getD j 0 = 47 ∨ Pq.pl (S.getD j 0) = true) : pathRest (S.drop j) = pathRest (S.drop (j + 1)) := by
  rw [Pq.drop_at S hj, pathRest_yes _ h]
theorem rest_no {S : List Nat} {j : Nat} (hj : j < S.length) (h37 : S.getD j 0 ≠ 37) (h : ¬ (S.getD j 0 = 47 ∨ Pq.pl (S.getD j 0) = true)) : pathRest (S.drop j) = false := by
  rw [Pq.drop_at S hj, pathRest_no _ h37 h]
theorem rest_esc {S : List Nat} {j : Nat} (hj : j + 2 < S.length) (hc : S.getD j 0 = 37) (ha : up (S.getD (j + 1) 0) = true) (hb : up (S.getD (j + 2) 0) = true) : pathRest (S.drop j) = pathRest (S.drop (j + 3)) := by
  rw [Pq.drop_three S hj, hc, pathRest_esc _ ha hb]
theorem rest_bad {S : List Nat} {j : Nat} (hj : j < S.length) (hc : S.getD j 0 = 37) (h : ¬ (j + 2 < S.length ∧ up (S.getD (j + 1) 0) = true ∧ up (S.getD (j + 2) 0) = true)) : pathRest (S.drop j) = false := by
  by_cases h2 : j + 2 < S.length
  · rw [Pq.drop_three S h2, hc, pathRest_bad _ (fun hd => h ⟨h2, hd⟩)]
  · rw [Pq.drop_at S hj, hc, pathRest_short (by rw [List.length_drop]; omega)]
/-- Is it a path? -/
def pathOk (l : List Nat) : Bool := l.head? == some 47 && pathRest l

/-- An address: host, path, pairs. -/
abbrev U := List Nat × List Nat × List (List Nat × List Nat)
def scheme : List Nat := [104, 116, 116, 112, 115, 58, 47, 47]
def hostOf (S : List Nat) : List Nat := front 47 (front 63 (S.drop 8))
def pathOf (S : List Nat) : List Nat := (front 63 (S.drop 8)).drop (hostOf S).length
def textOf (S : List Nat) : List Nat := behind 63 (S.drop 8)
/-- The address that a text says, or none. -/
def parse (S : List Nat) : Option U :=
  if S.length ≤ 4096 ∧ S.take 8 = scheme ∧ hostOk (hostOf S) = true ∧ pathOk (pathOf S) = true then (Pq.parse (textOf S)).map fun q => (hostOf S, pathOf S, q) else none
theorem parse_no {S : List Nat} (h : ¬ (S.length ≤ 4096 ∧ S.take 8 = scheme ∧ hostOk (hostOf S) = true ∧ pathOk (pathOf S) = true)) : parse S = none := by rw [parse, if_neg h]
theorem parse_none {S : List Nat} (h : Pq.parse (textOf S) = none) : parse S = none := by
  rw [parse, h]; split <;> rfl
theorem parse_yes {S : List Nat} (h : S.length ≤ 4096 ∧ S.take 8 = scheme ∧ hostOk (hostOf S) = true ∧ pathOk (pathOf S) = true) {q : List (List Nat × List Nat)} (hq : Pq.parse (textOf S) = some q) : parse S = some (hostOf S, pathOf S, q) := by
  rw [parse, if_pos h, hq]; rfl
theorem parse_some {S : List Nat} {u : U} (h : parse S = some u) : (S.length ≤ 4096 ∧ S.take 8 = scheme ∧ hostOk (hostOf S) = true ∧ pathOk (pathOf S) = true) ∧ u.1 = hostOf S ∧ u.2.1 = pathOf S ∧ Pq.parse (textOf S) = some u.2.2 := by
  unfold parse at h
  split at h
  · rename_i hc
    rw [Option.map_eq_some_iff] at h
    obtain ⟨q, hq, rfl⟩ := h
    exact ⟨hc, rfl, rfl, hq⟩
  · cases h

/-- An address, written. -/
def print (u : U) : List Nat := scheme ++ (u.1 ++ (u.2.1 ++ if u.2.2 = [] then [] else 63 :: Pq.print u.2.2))
theorem print_plain {u : U} (h : u.2.2 = []) : print u = scheme ++ u.1 ++ u.2.1 := by simp [print, h]
theorem print_query {u : U} (h : u.2.2 ≠ []) : print u = scheme ++ u.1 ++ u.2.1 ++ 63 :: Pq.print u.2.2 := by simp [print, h]
/-- Is it read as it is written? -/
def right (u : U) : Bool := decide (parse (print u) = some u)

theorem host_path {S : List Nat} : front 63 (S.drop 8) = hostOf S ++ pathOf S := by
  unfold pathOf
  conv => lhs; rw [← List.take_append_drop (hostOf S).length (front 63 (S.drop 8))]
  rw [show (front 63 (S.drop 8)).take (hostOf S).length = hostOf S from front_take _ _]
theorem whole {S : List Nat} (h8 : S.take 8 = scheme) (h : ∀ x ∈ S, x ≠ 63) : S = scheme ++ hostOf S ++ pathOf S := by
  have h1 : front 63 (S.drop 8) = S.drop 8 := (front_none fun x hx => h x (List.mem_of_mem_drop hx)).1
  rw [List.append_assoc, ← host_path, h1, ← h8, List.take_append_drop]

/-- What is read of a written address whose host and path are right. -/
theorem parse_print {H P : List Nat} {q : List (List Nat × List Nat)} (hH : ∀ x ∈ H, x ≠ 63 ∧ x ≠ 47) (hP : ∀ x ∈ P, x ≠ 63) (hh : hostOk H = true) (hp : pathOk P = true) (hF : Pq.Fine q) (hn : q.length ≤ 32) (hl : (print (H, P, q)).length ≤ 4096) : parse (print (H, P, q)) = some (H, P, q) := by
  have e8 : (print (H, P, q)).take 8 = scheme := List.take_left (l₁ := scheme)
  have d8 : (print (H, P, q)).drop 8 = H ++ (P ++ if q = [] then [] else 63 :: Pq.print q) := List.drop_left (l₁ := scheme)
  have hHP : ∀ x ∈ H ++ P, x ≠ 63 := by
    intro x hx
    rcases List.mem_append.1 hx with h | h
    · exact (hH x h).1
    · exact hP x h
  have hfb : front 63 ((print (H, P, q)).drop 8) = H ++ P ∧ behind 63 ((print (H, P, q)).drop 8) = if q = [] then [] else Pq.print q := by
    rw [d8]
    by_cases h0 : q = []
    · rw [if_pos h0, if_pos h0, List.append_nil]
      exact front_none hHP
    · rw [if_neg h0, if_neg h0, ← List.append_assoc]
      exact front_eq hHP rfl
  obtain ⟨r, hr⟩ : ∃ r, P = 47 :: r := by
    unfold pathOk at hp
    cases P with
    | nil => simp at hp
    | cons c r => simp at hp; exact ⟨r, by rw [hp.1]⟩
  have hho : hostOf (print (H, P, q)) = H := by
    unfold hostOf
    rw [hfb.1, hr]
    exact (front_eq (fun x hx => (hH x hx).2) rfl).1
  have hpo : pathOf (print (H, P, q)) = P := by
    unfold pathOf
    rw [hho, hfb.1, List.drop_left' rfl]
  have htx : textOf (print (H, P, q)) = if q = [] then [] else Pq.print q := hfb.2
  have hq : Pq.parse (textOf (print (H, P, q))) = some q := by
    rw [htx]
    split
    · rename_i h0; rw [h0, Pq.parse_nil]
    · rename_i h0
      refine Pq.parse_print hF hn ?_
      rw [print_query (u := (H, P, q)) h0, List.length_append, List.length_cons] at hl
      have : (Pq.print (H, P, q).2.2).length = (Pq.print q).length := rfl
      omega
  rw [parse_yes ⟨hl, e8, by rw [hho]; exact hh, by rw [hpo]; exact hp⟩ hq, hho, hpo]
/-- An address that was read is right, if what is printed is not too long. -/
theorem parse_back {S : List Nat} {u : U} (h : parse S = some u) (hF : Pq.Fine u.2.2) (hl : (print u).length ≤ 4096) : parse (print u) = some u := by
  obtain ⟨⟨_, _, hh, hp⟩, h1, h2, h3⟩ := parse_some h
  obtain ⟨H, P, q⟩ := u
  simp only at h1 h2 h3
  subst h1 h2
  refine parse_print (fun x hx => ⟨?_, front_free 47 _ x hx⟩) (fun x hx => ?_) hh hp hF (Pq.parse_length h3) hl
  · exact front_free 63 _ x (front_mem hx)
  · exact front_free 63 _ x (List.mem_of_mem_drop hx)
/-- Texts without a query of which the same address is read are the same. -/
theorem parse_same {S T : List Nat} {u v : U} (hS : parse S = some u) (hT : parse T = some v) (h1 : ∀ x ∈ S, x ≠ 63) (h2 : ∀ x ∈ T, x ≠ 63) : S = T ↔ u = v := by
  obtain ⟨⟨_, s8, _, _⟩, a1, a2, _⟩ := parse_some hS
  obtain ⟨⟨_, t8, _, _⟩, b1, b2, _⟩ := parse_some hT
  constructor
  · intro e
    subst e
    rw [hS] at hT
    exact Option.some.inj hT
  · intro e
    subst e
    rw [whole s8 h1, whole t8 h2, ← a1, ← a2, ← b1, ← b2]
theorem print_lt {u : U} (h1 : ∀ x ∈ u.1, x < 256) (h2 : ∀ x ∈ u.2.1, x < 256) (h3 : Pq.Fine u.2.2) : ∀ x ∈ print u, x < 256 := by
  intro x hx
  unfold print at hx
  rcases List.mem_append.1 hx with h | hx
  · have : ∀ x ∈ scheme, x < 256 := by decide
    exact this x h
  · rcases List.mem_append.1 hx with h | hx
    · exact h1 x h
    · rcases List.mem_append.1 hx with h | hx
      · exact h2 x h
      · split at hx
        · cases hx
        · rcases List.mem_cons.1 hx with rfl | h
          · omega
          · exact Pq.print_lt h3 x h
theorem parse_bytes {S : List Nat} {u : U} (h : parse S = some u) (hS : ∀ x ∈ S, x < 256) : (∀ x ∈ u.1, x < 256) ∧ ∀ x ∈ u.2.1, x < 256 := by
  obtain ⟨_, h1, h2, _⟩ := parse_some h
  rw [h1, h2]
  exact ⟨fun x hx => hS x (List.mem_of_mem_drop (front_mem (front_mem hx))), fun x hx => hS x (List.mem_of_mem_drop (front_mem (List.mem_of_mem_drop hx)))⟩
theorem parse_lens {S : List Nat} {u : U} (h : parse S = some u) : u.1.length ≤ 4096 ∧ u.2.1.length ≤ 4096 ∧ u.2.2.length ≤ 32 := by
  obtain ⟨⟨h4, _⟩, h1, h2, h3⟩ := parse_some h
  have a := front_le 63 (S.drop 8)
  have b := front_le 47 (front 63 (S.drop 8))
  rw [List.length_drop] at a
  refine ⟨by rw [h1]; unfold hostOf; omega, by rw [h2]; unfold pathOf; rw [List.length_drop]; omega, Pq.parse_length h3⟩
end Go.Proofs.YtnbaajdcakjlmaaDoor.Uq
