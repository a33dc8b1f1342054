/-
  Addresses, plain: hosts, ports, paths, parsing and printing, as functions on lists of numbers.
-/
import Derived.Test.YtejmkijnngkoaaaDoorPM
namespace Go.Proofs.YtejmkijnngkoaaaDoor.Uq

/-- Ahead of the first b, and behind it. -/
def front (b : Nat) (l : List Nat) : List Nat := l.takeWhile (· != b)
def behind (b : Nat) (l : List Nat) : List Nat := l.drop ((front b l).length + 1)
theorem front_le (b : Nat) (l : List Nat) : (front b l).length ≤ l.length := (List.takeWhile_prefix _).length_le
theorem front_take (b : Nat) (l : List Nat) : l.take (front b l).length = front b l := (List.prefix_iff_eq_take.1 (List.takeWhile_prefix _)).symm
theorem front_mem {b : Nat} {l : List Nat} {x : Nat} (h : x ∈ front b l) : x ∈ l := List.mem_of_mem_take (by rw [front_take]; exact h)
theorem front_free (b : Nat) (l : List Nat) : ∀ x ∈ front b l, x ≠ b := by
  induction l with
  | nil => intro x h; cases h
  | cons c r ih =>
    intro x h
    unfold front at h ih
    rw [List.takeWhile_cons] at h
    split at h
    · rename_i hc
      rcases List.mem_cons.1 h with rfl | h
      · simpa using hc
      · exact ih x h
    · cases h
theorem front_eq {b : Nat} {l a r : List Nat} (ha : ∀ x ∈ a, x ≠ b) (h : l = a ++ b :: r) : front b l = a ∧ behind b l = r := by
  have h1 : front b l = a := by
    subst h
    unfold front
    rw [List.takeWhile_append_of_pos (fun x hx' => by simpa using ha x hx')]
    simp
  refine ⟨h1, ?_⟩
  unfold behind
  rw [h1, h]
  simp
theorem front_none {b : Nat} {l : List Nat} (h : ∀ x ∈ l, x ≠ b) : front b l = l ∧ behind b l = [] := by
  have h1 : front b l = l := by
    unfold front
    have := List.takeWhile_append_of_pos (p := (· != b)) (l₁ := l) (l₂ := []) (fun x hx' => by simpa using h x hx')
    simpa using this
  refine ⟨h1, ?_⟩
  unfold behind
  rw [h1]
  exact List.drop_eq_nil_of_le (by omega)
theorem take_free {b : Nat} {S : List Nat} {k : Nat} (h : ∀ j, j < k → S.getD j 0 ≠ b) (hk : k ≤ S.length) : ∀ x ∈ S.take k, x ≠ b := by
  intro x hx
  obtain ⟨j, hj, rfl⟩ := List.getElem_of_mem hx
  rw [List.length_take] at hj
  have := h j (by omega)
  rw [List.getD_eq_getElem?_getD, List.getElem?_eq_getElem (by omega)] at this
  simpa using this
theorem split_at' {S : List Nat} {k : Nat} (hk : k < S.length) : S = S.take k ++ S.getD k 0 :: S.drop (k + 1) := by
  have h := Pq.drop_at S hk
  rw [← h, List.take_append_drop]
/-- The first b lies at k. -/
theorem front_at {b : Nat} {S : List Nat} {k : Nat} (h : ∀ j, j < k → S.getD j 0 ≠ b) (hk : k < S.length) (hc : S.getD k 0 = b) : front b S = S.take k ∧ behind b S = S.drop (k + 1) :=
  front_eq (take_free h (by omega)) (by have := split_at' hk; rwa [hc] at this)
/-- There is none. -/
theorem front_out {b : Nat} {S : List Nat} (h : ∀ j, j < S.length → S.getD j 0 ≠ b) : front b S = S ∧ behind b S = [] :=
  front_none (by have := take_free h (Nat.le_refl _); rwa [List.take_of_length_le (Nat.le_refl _)] at this)

/-- A text parted at each b. -/
def parts (b : Nat) : List Nat → List (List Nat)
  | [] => [[]]
  | c :: r => if c = b then [] :: parts b r else match parts b r with
    | [] => [[c]]
    | p :: ps => (c :: p) :: ps
theorem parts_ne (b : Nat) (l : List Nat) : parts b l ≠ [] := by
  cases l with
  | nil => simp [parts]
  | cons c r =>
    rw [parts]
    split
    · simp
    · split <;> simp
theorem parts_pos (b : Nat) (l : List Nat) : 0 < (parts b l).length := List.length_pos_iff.2 (parts_ne b l)
theorem parts_append (b : Nat) (s t : List Nat) : parts b (s ++ b :: t) = parts b s ++ parts b t := by
  induction s with
  | nil => simp [parts]
  | cons c r ih =>
    rw [List.cons_append, parts, parts, ih]
    split
    · rfl
    · cases h : parts b r with
      | nil => exact absurd h (parts_ne b r)
      | cons p ps => rfl
theorem parts_free {b : Nat} {l : List Nat} (h : ∀ x ∈ l, x ≠ b) : parts b l = [l] := by
  induction l with
  | nil => rfl
  | cons c r ih => rw [parts, if_neg (h c (by simp)), ih fun x hx' => h x (by simp [hx'])]
theorem parts_first {b : Nat} {l : List Nat} (h : ∀ x ∈ l, x ≠ b) (r : List Nat) : parts b (l ++ b :: r) = l :: parts b r := by
  rw [parts_append, parts_free h]; rfl
theorem parts_length_le (b : Nat) (l : List Nat) : (parts b l).length ≤ l.length + 1 := by
  induction l with
  | nil => simp [parts]
  | cons c r ih =>
    rw [parts]
    split
    · simp only [List.length_cons]; omega
    · split
      · simp
      · rename_i p ps hp; rw [hp] at ih; simp only [List.length_cons] at ih ⊢; omega
theorem parts_mem {b : Nat} {l p : List Nat} (h : p ∈ parts b l) : p.length ≤ l.length ∧ ∀ x ∈ p, x ∈ l := by
  induction l generalizing p with
  | nil => simp [parts] at h; subst h; exact ⟨Nat.le_refl _, fun x hx' => hx'⟩
  | cons c r ih =>
    rw [parts] at h
    split at h
    · rcases List.mem_cons.1 h with rfl | h
      · exact ⟨Nat.zero_le _, (fun x hx' => by cases hx')⟩
      · have := ih h; exact ⟨by simp; omega, fun x hx' => List.mem_cons_of_mem _ (this.2 x hx')⟩
    · split at h
      · rename_i hp; exact absurd hp (parts_ne b r)
      · rename_i p' ps hp
        rcases List.mem_cons.1 h with rfl | h
        · have := ih (p := p') (by rw [hp]; simp)
          exact ⟨by simp; omega, fun x hx' => by
            rcases List.mem_cons.1 hx' with rfl | hx'
            · simp
            · exact List.mem_cons_of_mem _ (this.2 x hx')⟩
        · have := ih (p := p) (by rw [hp]; simp [h])
          exact ⟨by simp; omega, fun x hx' => List.mem_cons_of_mem _ (this.2 x hx')⟩
theorem seg_free {b : Nat} {S : List Nat} {f k : Nat} (h : ∀ j, f ≤ j → j < k → S.getD j 0 ≠ b) (hk : k ≤ S.length) : ∀ x ∈ (S.take k).drop f, x ≠ b := by
  intro x hx
  obtain ⟨j, hj, rfl⟩ := List.getElem_of_mem hx
  rw [List.length_drop, List.length_take] at hj
  have := h (f + j) (by omega) (by omega)
  rw [List.getD_eq_getElem?_getD, List.getElem?_eq_getElem (by omega)] at this
  simpa using this
theorem parts_step {b : Nat} {S : List Nat} {f k : Nat} (h : ∀ j, f ≤ j → j < k → S.getD j 0 ≠ b) (hfk : f ≤ k) (hk : k < S.length) (hc : S.getD k 0 = b) : parts b (S.drop f) = (S.take k).drop f :: parts b (S.drop (k + 1)) := by
  have e : S.drop f = (S.take k).drop f ++ b :: S.drop (k + 1) := by
    have h1 := Pq.drop_at S hk
    rw [hc] at h1
    rw [← h1]
    conv => lhs; rw [← List.take_append_drop k S]
    rw [List.drop_append_of_le_length (by rw [List.length_take]; omega)]
  rw [e]
  exact parts_first (seg_free h (by omega)) _

/-- Is it a character of a host's name? -/
def nc (c : Nat) : Bool := (decide (97 ≤ c) && decide (c ≤ 122)) || (decide (48 ≤ c) && decide (c ≤ 57)) || c == 45
theorem nc_iff (c : Nat) : nc c = true ↔ (97 ≤ c ∧ c ≤ 122) ∨ (48 ≤ c ∧ c ≤ 57) ∨ c = 45 := by simp [nc, or_assoc]
def NameOk (l : List Nat) : Prop := 1 ≤ l.length ∧ l.length ≤ 63 ∧ l.getD 0 0 ≠ 45 ∧ l.getD (l.length - 1) 0 ≠ 45 ∧ ∀ c ∈ l, nc c = true
instance (l : List Nat) : Decidable (NameOk l) := inferInstanceAs (Decidable (_ ∧ _))
/-- Is it one of a host's names? -/
def nameOk (l : List Nat) : Bool := decide (NameOk l)

/-- The number that digits say. -/
def val (l : List Nat) : Nat := l.foldl (fun n c => n * 10 + (c - 48)) 0
theorem val_snoc (l : List Nat) (c : Nat) : val (l ++ [c]) = val l * 10 + (c - 48) := by simp [val]
def Digits (l : List Nat) : Prop := ∀ c ∈ l, 48 ≤ c ∧ c ≤ 57
instance (l : List Nat) : Decidable (Digits l) := inferInstanceAs (Decidable (∀ c ∈ l, _))
def NumOk (l : List Nat) : Prop := 1 ≤ l.length ∧ l.length ≤ 5 ∧ l.getD 0 0 ≠ 48 ∧ Digits l ∧ val l ≤ 65535
instance (l : List Nat) : Decidable (NumOk l) := inferInstanceAs (Decidable (_ ∧ _))
/-- Is it a host's number? -/
def numOk (l : List Nat) : Bool := decide (NumOk l)

/-- Is it a host? -/
def HostOk (l : List Nat) : Prop := l.length ≤ 253 ∧ ((front 58 l).length < l.length → numOk (behind 58 l) = true) ∧ ∀ p ∈ parts 46 (front 58 l), nameOk p = true
instance (l : List Nat) : Decidable (HostOk l) := inferInstanceAs (Decidable (_ ∧ _))
def hostOk (l : List Nat) : Bool := decide (HostOk l)

/-- An upper-case hexadecimal sign? -/
def up (c : Nat) : Bool := (decide (48 ≤ c) && decide (c ≤ 57)) || (decide (65 ≤ c) && decide (c ≤ 70))
theorem up_iff (c : Nat) : up c = true ↔ (48 ≤ c ∧ c ≤ 57) ∨ (65 ≤ c ∧ c ≤ 70) := by simp [up]
/-- Are these characters and whole escapes of a path? -/
def pathRest : List Nat → Bool
  | [] => true
  | c :: r => if c = 37 then
      match r with
      | a :: b :: r' => up a && up b && pathRest r'
      | _ => false
    else (c == 47 || Pq.pl c) && pathRest r
theorem pathRest_nil : pathRest [] = true := by rw [pathRest]
theorem pathRest_yes {c : Nat} (r : List Nat) (h : c = 47 ∨ Pq.pl c = true) : pathRest (c :: r) = pathRest r := by
  have h37 : c ≠ 37 := by
    rcases h with h | h
    · omega
    · rw [Pq.pl_iff] at h; omega
  rw [pathRest.eq_def]
  simp only [if_neg h37]
  have : (c == 47 || Pq.pl c) = true := by
    rcases h with h | h
    · simp [h]
    · simp [h]
  rw [this, Bool.true_and]
theorem pathRest_no {c : Nat} (r : List Nat) (h37 : c ≠ 37) (h : ¬ (c = 47 ∨ Pq.pl c = true)) : pathRest (c :: r) = false := by
  rw [pathRest.eq_def]
  simp only [if_neg h37]
  have : (c == 47 || Pq.pl c) = false := by
    simp only [not_or] at h
    simp [h.1, h.2]
  rw [this, Bool.false_and]
theorem pathRest_esc {a b : Nat} (r : List Nat) (ha : up a = true) (hb : up b = true) : pathRest (37 :: a :: b :: r) = pathRest r := by
  rw [pathRest, if_pos rfl]
  simp [ha, hb]
theorem pathRest_bad {a b : Nat} (r : List Nat) (h : ¬ (up a = true ∧ up b = true)) : pathRest (37 :: a :: b :: r) = false := by
  rw [pathRest, if_pos rfl]
  cases ha : up a <;> cases hb : up b <;> simp_all
theorem pathRest_short {r : List Nat} (h : r.length < 2) : pathRest (37 :: r) = false := by
  rw [pathRest.eq_def]
  match r, h with
  | [], _ => rfl
  | [_], _ => rfl
theorem rest_yes {S : List Nat} {j : Nat} (hj : j < S.length) (h : S.getD j 0 = 47 ∨ Pq.pl (S.getD j 0) = true) : pathRest (S.drop j) = pathRest (S.drop (j + 1)) := by
  rw [Pq.drop_at S hj, pathRest_yes _ h]
theorem rest_no {S : List Nat} {j : Nat} (hj : j < S.length) (h37 : S.getD j 0 ≠ 37) (h : ¬ (S.getD j 0 = 47 ∨ Pq.pl (S.getD j 0) = true)) : pathRest (S.drop j) = false := by
  rw [Pq.drop_at S hj, pathRest_no _ h37 h]
theorem rest_esc {S : List Nat} {j : Nat} (hj : j + 2 < S.length) (hc : S.getD j 0 = 37) (ha : up (S.getD (j + 1) 0) = true) (hb : up (S.getD (j + 2) 0) = true) : pathRest (S.drop j) = pathRest (S.drop (j + 3)) := by
  rw [Pq.drop_three S hj, hc, pathRest_esc _ ha hb]
theorem rest_bad {S : List Nat} {j : Nat} (hj : j < S.length) (hc : S.getD j 0 = 37) (h : ¬ (j + 2 < S.length ∧ up (S.getD (j + 1) 0) = true ∧ up (S.getD (j + 2) 0) = true)) : pathRest (S.drop j) = false := by
  by_cases h2 : j + 2 < S.length
  · rw [Pq.drop_three S h2, hc, pathRest_bad _ (fun hd => h ⟨h2, hd⟩)]
  · rw [Pq.drop_at S hj, hc, pathRest_short (by rw [List.length_drop]; omega)]
/-- Is it a path? -/
def pathOk (l : List Nat) : Bool := l.head? == some 47 && pathRest l

/-- An address: host, path, pairs. -/
abbrev U := List Nat × List Nat × List (List Nat × List Nat)
def scheme : List Nat := [104, 116, 116, 112, 115, 58, 47, 47]
def hostOf (S : List Nat) : List Nat := front 47 (front 63 (S.drop 8))
def pathOf (S : List Nat) : List Nat := (front 63 (S.drop 8)).drop (hostOf S).length
def textOf (S : List Nat) : List Nat := behind 63 (S.drop 8)
/-- The address that a text says, or none. -/
def parse (S : List Nat) : Option U :=
  if S.length ≤ 4096 ∧ S.take 8 = scheme ∧ hostOk (hostOf S) = true ∧ pathOk (pathOf S) = true then (Pq.parse (textOf S)).map fun q => (hostOf S, pathOf S, q) else none
theorem parse_no {S : List Nat} (h : ¬ (S.length ≤ 4096 ∧ S.take 8 = scheme ∧ hostOk (hostOf S) = true ∧ pathOk (pathOf S) = true)) : parse S = none := by rw [parse, if_neg h]
theorem parse_none {S : List Nat} (h : Pq.parse (textOf S) = none) : parse S = none := by
  rw [parse, h]; split <;> rfl
theorem parse_yes {S : List Nat} (h : S.length ≤ 4096 ∧ S.take 8 = scheme ∧ hostOk (hostOf S) = true ∧ pathOk (pathOf S) = true) {q : List (List Nat × List Nat)} (hq : Pq.parse (textOf S) = some q) : parse S = some (hostOf S, pathOf S, q) := by
  rw [parse, if_pos h, hq]; rfl
theorem parse_some {S : List Nat} {u : U} (h : parse S = some u) : (S.length ≤ 4096 ∧ S.take 8 = scheme ∧ hostOk (hostOf S) = true ∧ pathOk (pathOf S) = true) ∧ u.1 = hostOf S ∧ u.2.1 = pathOf S ∧ Pq.parse (textOf S) = some u.2.2 := by
  unfold parse at h
  split at h
  · rename_i hc
    rw [Option.map_eq_some_iff] at h
    obtain ⟨q, hq, rfl⟩ := h
    exact ⟨hc, rfl, rfl, hq⟩
  · cases h

/-- An address, written. -/
def print (u : U) : List Nat := scheme ++ (u.1 ++ (u.2.1 ++ if u.2.2 = [] then [] else 63 :: Pq.print u.2.2))
theorem print_plain {u : U} (h : u.2.2 = []) : print u = scheme ++ u.1 ++ u.2.1 := by simp [print, h]
theorem print_query {u : U} (h : u.2.2 ≠ []) : print u = scheme ++ u.1 ++ u.2.1 ++ 63 :: Pq.print u.2.2 := by simp [print, h]
/-- Is it read as it is written? -/
def right (u : U) : Bool := decide (parse (print u) = some u)

theorem host_path {S : List Nat} : front 63 (S.drop 8) = hostOf S ++ pathOf S := by
  unfold pathOf
  conv => lhs; rw [← List.take_append_drop (hostOf S).length (front 63 (S.drop 8))]
  rw [show (front 63 (S.drop 8)).take (hostOf S).length = hostOf S from front_take _ _]
theorem whole {S : List Nat} (h8 : S.take 8 = scheme) (h : ∀ x ∈ S, x ≠ 63) : S = scheme ++ hostOf S ++ pathOf S := by
  have h1 : front 63 (S.drop 8) = S.drop 8 := (front_none fun x hx => h x (List.mem_of_mem_drop hx)).1
  rw [List.append_assoc, ← host_path, h1, ← h8, List.take_append_drop]

/-- What is read of a written address whose host and path are right. -/
theorem parse_print {H P : List Nat} {q : List (List Nat × List Nat)} (hH : ∀ x ∈ H, x ≠ 63 ∧ x ≠ 47) (hP : ∀ x ∈ P, x ≠ 63) (hh : hostOk H = true) (hp : pathOk P = true) (hF : Pq.Fine q) (hn : q.length ≤ 32) (hl : (print (H, P, q)).length ≤ 4096) : parse (print (H, P, q)) = some (H, P, q) := by
  have e8 : (print (H, P, q)).take 8 = scheme := List.take_left (l₁ := scheme)
  have d8 : (print (H, P, q)).drop 8 = H ++ (P ++ if q = [] then [] else 63 :: Pq.print q) := List.drop_left (l₁ := scheme)
  have hHP : ∀ x ∈ H ++ P, x ≠ 63 := by
    intro x hx
    rcases List.mem_append.1 hx with h | h
    · exact (hH x h).1
    · exact hP x h
  have hfb : front 63 ((print (H, P, q)).drop 8) = H ++ P ∧ behind 63 ((print (H, P, q)).drop 8) = if q = [] then [] else Pq.print q := by
    rw [d8]
    by_cases h0 : q = []
    · rw [if_pos h0, if_pos h0, List.append_nil]
      exact front_none hHP
    · rw [if_neg h0, if_neg h0, ← List.append_assoc]
      exact front_eq hHP rfl
  obtain ⟨r, hr⟩ : ∃ r, P = 47 :: r := by
    unfold pathOk at hp
    cases P with
    | nil => simp at hp
    | cons c r => simp at hp; exact ⟨r, by rw [hp.1]⟩
  have hho : hostOf (print (H, P, q)) = H := by
    unfold hostOf
    rw [hfb.1, hr]
    exact (front_eq (fun x hx => (hH x hx).2) rfl).1
  have hpo : pathOf (print (H, P, q)) = P := by
    unfold pathOf
    rw [hho, hfb.1, List.drop_left' rfl]
  have htx : textOf (print (H, P, q)) = if q = [] then [] else Pq.print q := hfb.2
  have hq : Pq.parse (textOf (print (H, P, q))) = some q := by
    rw [htx]
    split
    · rename_i h0; rw [h0, Pq.parse_nil]
    · rename_i h0
      refine Pq.parse_print hF hn ?_
      rw [print_query (u := (H, P, q)) h0, List.length_append, List.length_cons] at hl
      have : (Pq.print (H, P, q).2.2).length = (Pq.print q).length := rfl
      omega
  rw [parse_yes ⟨hl, e8, by rw [hho]; exact hh, by rw [hpo]; exact hp⟩ hq, hho, hpo]
/-- An address that was read is right, if what is printed is not too long. -/
theorem parse_back {S : List Nat} {u : U} (h : parse S = some u) (hF : Pq.Fine u.2.2) (hl : (print u).length ≤ 4096) : parse (print u) = some u := by
  obtain ⟨⟨_, _, hh, hp⟩, h1, h2, h3⟩ := parse_some h
  obtain ⟨H, P, q⟩ := u
  simp only at h1 h2 h3
  subst h1 h2
  refine parse_print (fun x hx => ⟨?_, front_free 47 _ x hx⟩) (fun x hx => ?_) hh hp hF (Pq.parse_length h3) hl
  · exact front_free 63 _ x (front_mem hx)
  · exact front_free 63 _ x (List.mem_of_mem_drop hx)
/-- Texts without a query of which the same address is read are the same. -/
theorem parse_same {S T : List Nat} {u v : U} (hS : parse S = some u) (hT : parse T = some v) (h1 : ∀ x ∈ S, x ≠ 63) (h2 : ∀ x ∈ T, x ≠ 63) : S = T ↔ u = v := by
  obtain ⟨⟨_, s8, _, _⟩, a1, a2, _⟩ := parse_some hS
  obtain ⟨⟨_, t8, _, _⟩, b1, b2, _⟩ := parse_some hT
  constructor
  · intro e
    subst e
    rw [hS] at hT
    exact Option.some.inj hT
  · intro e
    subst e
    rw [whole s8 h1, whole t8 h2, ← a1, ← a2, ← b1, ← b2]
theorem print_lt {u : U} (h1 : ∀ x ∈ u.1, x < 256) (h2 : ∀ x ∈ u.2.1, x < 256) (h3 : Pq.Fine u.2.2) : ∀ x ∈ print u, x < 256 := by
  intro x hx
  unfold print at hx
  rcases List.mem_append.1 hx with h | hx
  · have : ∀ x ∈ scheme, x < 256 := by decide
    exact this x h
  · rcases List.mem_append.1 hx with h | hx
    · exact h1 x h
    · rcases List.mem_append.1 hx with h | hx
      · exact h2 x h
      · split at hx
        · cases hx
        · rcases List.mem_cons.1 hx with rfl | h
          · omega
          · exact Pq.print_lt h3 x h
theorem parse_bytes {S : List Nat} {u : U} (h : parse S = some u) (hS : ∀ x ∈ S, x < 256) : (∀ x ∈ u.1, x < 256) ∧ ∀ x ∈ u.2.1, x < 256 := by
  obtain ⟨_, h1, h2, _⟩ := parse_some h
  rw [h1, h2]
  exact ⟨fun x hx => hS x (List.mem_of_mem_drop (front_mem (front_mem hx))), fun x hx => hS x (List.mem_of_mem_drop (front_mem (List.mem_of_mem_drop hx)))⟩
theorem parse_lens {S : List Nat} {u : U} (h : parse S = some u) : u.1.length ≤ 4096 ∧ u.2.1.length ≤ 4096 ∧ u.2.2.length ≤ 32 := by
  obtain ⟨⟨h4, _⟩, h1, h2, h3⟩ := parse_some h
  have a := front_le 63 (S.drop 8)
  have b := front_le 47 (front 63 (S.drop 8))
  rw [List.length_drop] at a
  refine ⟨by rw [h1]; unfold hostOf; omega, by rw [h2]; unfold pathOf; rw [List.length_drop]; omega, Pq.parse_length h3⟩
end Go.Proofs.YtejmkijnngkoaaaDoor.Uq
