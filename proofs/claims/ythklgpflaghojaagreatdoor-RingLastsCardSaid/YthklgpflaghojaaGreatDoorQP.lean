/-
  QP: PM UM, side by side.
-/

/-
  Pairs, plain: escaping, unescaping, parts and pairs, as functions on lists of numbers.
-/
namespace Go.Proofs.YthklgpflaghojaaGreatDoor.Pq

/-- Does a byte stay as it is? -/
def pl (c : Nat) : Bool := (decide (65 ≤ c) && decide (c ≤ 90)) || (decide (97 ≤ c) && decide (c ≤ 122)) || (decide (48 ≤ c) && decide (c ≤ 57)) || c == 45 || c == 46 || c == 95 || c == 126
/-- A hexadecimal sign. -/
def hx (n : Nat) : Nat := if n < 10 then 48 + n else 55 + n
/-- A sign's value; 16: it is none. -/
def hv (c : Nat) : Nat := if 48 ≤ c ∧ c ≤ 57 then c - 48 else if 65 ≤ c ∧ c ≤ 70 then c - 55 else if 97 ≤ c ∧ c ≤ 102 then c - 87 else 16
def e1 (c : Nat) : List Nat := if pl c then [c] else [37, hx (c / 16), hx (c % 16)]
/-- Escaped. -/
def es (l : List Nat) : List Nat := l.flatMap e1
/-- Unescaped, or none. -/
def un (plus : Bool) : List Nat → Option (List Nat)
  | [] => some []
  | c :: r => if c = 37 then
      match r with
      | a :: b :: r' => if hv a < 16 ∧ hv b < 16 then (un plus r').map fun q => (hv a * 16 + hv b) :: q else none
      | _ => none
    else (un plus r).map fun q => (if c = 43 ∧ plus = true then 32 else c) :: q
theorem drop_at (S : List Nat) {j : Nat} (h : j < S.length) : S.drop j = S.getD j 0 :: S.drop (j + 1) := by
  rw [List.drop_eq_getElem_cons h]
  simp [List.getD_eq_getElem?_getD, List.getElem?_eq_getElem h]
/-- A text parted at each &. -/
def parts : List Nat → List (List Nat)
  | [] => [[]]
  | c :: r => if c = 38 then [] :: parts r else match parts r with
    | [] => [[c]]
    | p :: ps => (c :: p) :: ps
theorem parts_ne (l : List Nat) : parts l ≠ [] := by
  cases l with
  | nil => simp [parts]
  | cons c r =>
    rw [parts]
    split
    · simp
    · split <;> simp
theorem parts_append (s t : List Nat) : parts (s ++ 38 :: t) = parts s ++ parts t := by
  induction s with
  | nil => simp [parts]
  | cons c r ih =>
    rw [List.cons_append, parts, parts, ih]
    split
    · rfl
    · cases h : parts r with
      | nil => exact absurd h (parts_ne r)
      | cons p ps => rfl
theorem parts_free {l : List Nat} (h : ∀ x ∈ l, x ≠ 38) : parts l = [l] := by
  induction l with
  | nil => rfl
  | cons c r ih => rw [parts, if_neg (h c (by simp)), ih fun x hx' => h x (by simp [hx'])]
theorem parts_first {l : List Nat} (h : ∀ x ∈ l, x ≠ 38) (r : List Nat) : parts (l ++ 38 :: r) = l :: parts r := by
  rw [parts_append, parts_free h]; rfl
theorem parts_mem {l p : List Nat} (h : p ∈ parts l) : p.length ≤ l.length ∧ ∀ x ∈ p, x ∈ l := by
  induction l generalizing p with
  | nil => simp [parts] at h; subst h; exact ⟨Nat.le_refl _, fun x hx' => hx'⟩
  | cons c r ih =>
    rw [parts] at h
    split at h
    · rcases List.mem_cons.1 h with rfl | h
      · exact ⟨Nat.zero_le _, (fun x hx' => by cases hx')⟩
      · have := ih h; exact ⟨by simp; omega, fun x hx' => List.mem_cons_of_mem _ (this.2 x hx')⟩
    · split at h
      · rename_i hp; exact absurd hp (parts_ne r)
      · rename_i p' ps hp
        rcases List.mem_cons.1 h with rfl | h
        · have := ih (p := p') (by rw [hp]; simp)
          exact ⟨by simp; omega, fun x hx' => by
            rcases List.mem_cons.1 hx' with rfl | hx'
            · simp
            · exact List.mem_cons_of_mem _ (this.2 x hx')⟩
        · have := ih (p := p) (by rw [hp]; simp [h])
          exact ⟨by simp; omega, fun x hx' => List.mem_cons_of_mem _ (this.2 x hx')⟩

/-- Ahead of the first =, and behind it. -/
def front (l : List Nat) : List Nat := l.takeWhile (· != 61)
def behind (l : List Nat) : List Nat := l.drop ((front l).length + 1)
theorem front_take (l : List Nat) : l.take (front l).length = front l := (List.prefix_iff_eq_take.1 (List.takeWhile_prefix _)).symm
theorem front_none {l : List Nat} (h : ∀ x ∈ l, x ≠ 61) : front l = l ∧ behind l = [] := by
  have h1 : front l = l := by
    unfold front
    have := List.takeWhile_append_of_pos (p := (· != 61)) (l₁ := l) (l₂ := []) (fun x hx' => by simpa using h x hx')
    simpa using this
  refine ⟨h1, ?_⟩
  unfold behind
  rw [h1]
  exact List.drop_eq_nil_of_le (by omega)

/-- A part's pair, or none. -/
def pair (l : List Nat) : Option (List Nat × List Nat) :=
  match un true (front l), un true (behind l) with
  | some a, some b => some (a, b)
  | _, _ => none
/-- The pairs of parts, or none. -/
def pairsOf : List (List Nat) → Option (List (List Nat × List Nat))
  | [] => some []
  | p :: r => match pair p, pairsOf r with
    | some x, some y => some (x :: y)
    | _, _ => none
/-- The pairs of a text, or none. -/
def parse (S : List Nat) : Option (List (List Nat × List Nat)) :=
  if 4096 < S.length then none else if S = [] then some [] else if 32 < (parts S).length then none else pairsOf (parts S)
theorem parse_long {S : List Nat} (h : 4096 < S.length) : parse S = none := by simp [parse, h]
/-- A pair, written. -/
def pr1 (p : List Nat × List Nat) : List Nat := es p.1 ++ 61 :: es p.2
/-- Pairs, written. -/
def print (L : List (List Nat × List Nat)) : List Nat := [38].intercalate (L.map pr1)
/-- The first value of a name, and how many there are. -/
def first (L : List (List Nat × List Nat)) (n : List Nat) : List Nat := ((L.find? fun p => p.1 == n).map (·.2)).getD []
def many (L : List (List Nat × List Nat)) (n : List Nat) : Nat := L.countP fun p => p.1 == n
end Go.Proofs.YthklgpflaghojaaGreatDoor.Pq

/-
  Addresses, plain: hosts, ports, paths, parsing and printing, as functions on lists of numbers.
-/
namespace Go.Proofs.YthklgpflaghojaaGreatDoor.Uq

/-- Ahead of the first b, and behind it. -/
def front (b : Nat) (l : List Nat) : List Nat := l.takeWhile (· != b)
def behind (b : Nat) (l : List Nat) : List Nat := l.drop ((front b l).length + 1)
theorem front_take (b : Nat) (l : List Nat) : l.take (front b l).length = front b l := (List.prefix_iff_eq_take.1 (List.takeWhile_prefix _)).symm
theorem front_none {b : Nat} {l : List Nat} (h : ∀ x ∈ l, x ≠ b) : front b l = l ∧ behind b l = [] := by
  have h1 : front b l = l := by
    unfold front
    have := List.takeWhile_append_of_pos (p := (· != b)) (l₁ := l) (l₂ := []) (fun x hx' => by simpa using h x hx')
    simpa using this
  refine ⟨h1, ?_⟩
  unfold behind
  rw [h1]
  exact List.drop_eq_nil_of_le (by omega)
/-- A text parted at each b. -/
def parts (b : Nat) : List Nat → List (List Nat)
  | [] => [[]]
  | c :: r => if c = b then [] :: parts b r else match parts b r with
    | [] => [[c]]
    | p :: ps => (c :: p) :: ps
theorem parts_ne (b : Nat) (l : List Nat) : parts b l ≠ [] := by
  cases l with
  | nil => simp [parts]
  | cons c r =>
    rw [parts]
    split
    · simp
    · split <;> simp
theorem parts_append (b : Nat) (s t : List Nat) : parts b (s ++ b :: t) = parts b s ++ parts b t := by
  induction s with
  | nil => simp [parts]
  | cons c r ih =>
    rw [List.cons_append, parts, parts, ih]
    split
    · rfl
    · cases h : parts b r with
      | nil => exact absurd h (parts_ne b r)
      | cons p ps => rfl
theorem parts_free {b : Nat} {l : List Nat} (h : ∀ x ∈ l, x ≠ b) : parts b l = [l] := by
  induction l with
  | nil => rfl
  | cons c r ih => rw [parts, if_neg (h c (by simp)), ih fun x hx' => h x (by simp [hx'])]
theorem parts_first {b : Nat} {l : List Nat} (h : ∀ x ∈ l, x ≠ b) (r : List Nat) : parts b (l ++ b :: r) = l :: parts b r := by
  rw [parts_append, parts_free h]; rfl
theorem parts_mem {b : Nat} {l p : List Nat} (h : p ∈ parts b l) : p.length ≤ l.length ∧ ∀ x ∈ p, x ∈ l := by
  induction l generalizing p with
  | nil => simp [parts] at h; subst h; exact ⟨Nat.le_refl _, fun x hx' => hx'⟩
  | cons c r ih =>
    rw [parts] at h
    split at h
    · rcases List.mem_cons.1 h with rfl | h
      · exact ⟨Nat.zero_le _, (fun x hx' => by cases hx')⟩
      · have := ih h; exact ⟨by simp; omega, fun x hx' => List.mem_cons_of_mem _ (this.2 x hx')⟩
    · split at h
      · rename_i hp; exact absurd hp (parts_ne b r)
      · rename_i p' ps hp
        rcases List.mem_cons.1 h with rfl | h
        · have := ih (p := p') (by rw [hp]; simp)
          exact ⟨by simp; omega, fun x hx' => by
            rcases List.mem_cons.1 hx' with rfl | hx'
            · simp
            · exact List.mem_cons_of_mem _ (this.2 x hx')⟩
        · have := ih (p := p) (by rw [hp]; simp [h])
          exact ⟨by simp; omega, fun x hx' => List.mem_cons_of_mem _ (this.2 x hx')⟩
/-- Is it a character of a host's name? -/
def nc (c : Nat) : Bool := (decide (97 ≤ c) && decide (c ≤ 122)) || (decide (48 ≤ c) && decide (c ≤ 57)) || c == 45
def NameOk (l : List Nat) : Prop := 1 ≤ l.length ∧ l.length ≤ 63 ∧ l.getD 0 0 ≠ 45 ∧ l.getD (l.length - 1) 0 ≠ 45 ∧ ∀ c ∈ l, nc c = true
instance (l : List Nat) : Decidable (NameOk l) := inferInstanceAs (Decidable (_ ∧ _))
/-- Is it one of a host's names? -/
def nameOk (l : List Nat) : Bool := decide (NameOk l)

/-- The number that digits say. -/
def val (l : List Nat) : Nat := l.foldl (fun n c => n * 10 + (c - 48)) 0
theorem val_snoc (l : List Nat) (c : Nat) : val (l ++ [c]) = val l * 10 + (c - 48) := by simp [val]
def Digits (l : List Nat) : Prop := ∀ c ∈ l, 48 ≤ c ∧ c ≤ 57
instance (l : List Nat) : Decidable (Digits l) := inferInstanceAs (Decidable (∀ c ∈ l, _))
def NumOk (l : List Nat) : Prop := 1 ≤ l.length ∧ l.length ≤ 5 ∧ l.getD 0 0 ≠ 48 ∧ Digits l ∧ val l ≤ 65535
instance (l : List Nat) : Decidable (NumOk l) := inferInstanceAs (Decidable (_ ∧ _))
/-- Is it a host's number? -/
def numOk (l : List Nat) : Bool := decide (NumOk l)

/-- Is it a host? -/
def HostOk (l : List Nat) : Prop := l.length ≤ 253 ∧ ((front 58 l).length < l.length → numOk (behind 58 l) = true) ∧ ∀ p ∈ parts 46 (front 58 l), nameOk p = true
instance (l : List Nat) : Decidable (HostOk l) := inferInstanceAs (Decidable (_ ∧ _))
def hostOk (l : List Nat) : Bool := decide (HostOk l)

/-- An upper-case hexadecimal sign? -/
def up (c : Nat) : Bool := (decide (48 ≤ c) && decide (c ≤ 57)) || (decide (65 ≤ c) && decide (c ≤ 70))
/-- Are these characters and whole escapes of a path? -/
def pathRest : List Nat → Bool
  | [] => true
  | c :: r => if c = 37 then
      match r with
      | a :: b :: r' => up a && up b && pathRest r'
      | _ => false
    else (c == 47 || Pq.pl c) && pathRest r
/-- Is it a path? -/
def pathOk (l : List Nat) : Bool := l.head? == some 47 && pathRest l

/-- An address: host, path, pairs. -/
abbrev U := List Nat × List Nat × List (List Nat × List Nat)
def scheme : List Nat := [104, 116, 116, 112, 115, 58, 47, 47]
def hostOf (S : List Nat) : List Nat := front 47 (front 63 (S.drop 8))
def pathOf (S : List Nat) : List Nat := (front 63 (S.drop 8)).drop (hostOf S).length
def textOf (S : List Nat) : List Nat := behind 63 (S.drop 8)
/-- The address that a text says, or none. -/
def parse (S : List Nat) : Option U :=
  if S.length ≤ 4096 ∧ S.take 8 = scheme ∧ hostOk (hostOf S) = true ∧ pathOk (pathOf S) = true then (Pq.parse (textOf S)).map fun q => (hostOf S, pathOf S, q) else none
/-- An address, written. -/
def print (u : U) : List Nat := scheme ++ (u.1 ++ (u.2.1 ++ if u.2.2 = [] then [] else 63 :: Pq.print u.2.2))
/-- Is it read as it is written? -/
def right (u : U) : Bool := decide (parse (print u) = some u)

theorem host_path {S : List Nat} : front 63 (S.drop 8) = hostOf S ++ pathOf S := by
  unfold pathOf
  conv => lhs; rw [← List.take_append_drop (hostOf S).length (front 63 (S.drop 8))]
  rw [show (front 63 (S.drop 8)).take (hostOf S).length = hostOf S from front_take _ _]
theorem whole {S : List Nat} (h8 : S.take 8 = scheme) (h : ∀ x ∈ S, x ≠ 63) : S = scheme ++ hostOf S ++ pathOf S := by
  have h1 : front 63 (S.drop 8) = S.drop 8 := (front_none fun x hx => h x (List.mem_of_mem_drop hx)).1
  rw [List.append_assoc, ← host_path, h1, ← h8, List.take_append_drop]

end Go.Proofs.YthklgpflaghojaaGreatDoor.Uq
