/-
  Elements as bytes, plain: reading, writing and what is right, as functions on lists of numbers. How deep elements may yet lie within each other is a number of levels.
-/
namespace Go.Proofs.Ytkjofadabaecfaa.Bq

/-- An element with all its fields, whatever they are. -/
inductive T where
  | mk (tag : Nat) (bytes : List Nat) (list : List T)
namespace T
def tag : T → Nat | .mk a _ _ => a
def bytes : T → List Nat | .mk _ b _ => b
def list : T → List T | .mk _ _ l => l
end T
def size (n : Nat) : List Nat := if n < 128 then [n] else if n < 256 then [129, n] else [130, n / 256, n % 256]
/-- The length with which bytes begin, and how many bytes it has. -/
def sized : List Nat → Option (Nat × Nat)
  | [] => none
  | a :: r => if a < 128 then some (a, 1)
    else if a = 129 then (match r with
      | b :: _ => if 128 ≤ b then some (b, 2) else none
      | [] => none)
    else if a = 130 then (match r with
      | b :: c :: _ => if 1 ≤ b then some (b * 256 + c, 3) else none
      | _ => none)
    else none
/-- Elements one behind the other, up to the end. -/
def items (elem : List Nat → Except Nat (T × Nat)) : Nat → List Nat → Except Nat (List T)
  | _, [] => .ok []
  | 0, _ :: _ => .error 60
  | f + 1, a :: l => match elem (a :: l) with
    | .error e => .error e
    | .ok (t, m) => (items elem f ((a :: l).drop m)).map (t :: ·)
/-- The element at the front of bytes, and how many bytes it has. -/
def read : Nat → List Nat → Except Nat (T × Nat)
  | lv, S =>
    match S with
    | [] => .error 60
    | a :: r =>
      if a % 32 = 31 then .error 60
      else match sized r with
        | none => .error 60
        | some (n, k) =>
          if r.length < k + n then .error 60
          else if a / 32 % 2 = 0 then .ok (.mk a ((r.drop k).take n) [], 1 + k + n)
          else match lv with
            | 0 => .error 61
            | lv + 1 => (items (read lv) n ((r.drop k).take n)).map fun l => (.mk a [] l, 1 + k + n)
/-- The element that bytes say, or the error. -/
def decode (S : List Nat) : Except Nat T :=
  match read 16 S with
  | .error e => .error e
  | .ok (t, n) => if n < S.length then .error 60 else .ok t
/-- The first number that is not 0. -/
def first (f : T → Nat) : List T → Nat
  | [] => 0
  | x :: r => if f x ≠ 0 then f x else first f r
/-- What is amiss with the first element; 0: nothing. -/
def amiss : Nat → T → Nat
  | lv, t =>
    if t.tag % 32 = 31 ∨ (t.tag / 32 % 2 = 0 ∧ t.list ≠ []) ∨ (t.tag / 32 % 2 = 1 ∧ t.bytes ≠ []) then 60
    else if t.tag / 32 % 2 = 0 then 0
    else match lv with
      | 0 => 61
      | lv + 1 => first (amiss lv) t.list
/-- What follows an element's length. -/
def inner (enc : T → List Nat) (t : T) : List Nat := t.bytes ++ t.list.flatMap enc
def enc : Nat → T → List Nat
  | 0, t => t.tag :: (size t.bytes.length ++ t.bytes)
  | lv + 1, t => t.tag :: (size (inner (enc lv) t).length ++ inner (enc lv) t)
def cont : Nat → T → List Nat
  | 0, t => t.bytes
  | lv + 1, t => inner (enc lv) t
theorem enc_cont (lv : Nat) (t : T) : enc lv t = t.tag :: (size (cont lv t).length ++ cont lv t) := by
  cases lv <;> rfl
/-- An element's bytes, or none: it is too long. -/
def wlist (el : T → Option (List Nat)) : List Nat → List T → Option (List Nat)
  | acc, [] => some acc
  | acc, x :: r => match el x with
    | none => none
    | some y => if 65535 < acc.length then none else wlist el (acc ++ y) r
def write : Nat → T → Option (List Nat)
  | 0, t => if 65535 < t.bytes.length then none else some (t.tag :: (size t.bytes.length ++ t.bytes))
  | lv + 1, t => (wlist (write lv) t.bytes t.list).bind fun x => if 65535 < x.length then none else some (t.tag :: (size x.length ++ x))
def encode (t : T) : Except Nat (List Nat) :=
  if amiss 16 t ≠ 0 then .error (amiss 16 t) else match write 16 t with
    | none => .error 60
    | some w => .ok w

/-! Lengths. -/
theorem size_sized {n : Nat} (hn : n ≤ 65535) (r : List Nat) : sized (size n ++ r) = some (n, (size n).length) := by
  unfold size
  split
  · rename_i h
    simp [sized, h]
  · split
    · rename_i h1 h2
      simp [sized]
      omega
    · rename_i h1 h2
      simp [sized]
      constructor <;> omega
theorem sized_size {r : List Nat} (hr : ∀ x ∈ r, x < 256) {n k : Nat} (h : sized r = some (n, k)) : n ≤ 65535 ∧ r.take k = size n ∧ k = (size n).length ∧ k ≤ r.length := by
  match r, h with
  | a :: r, h =>
    rw [sized.eq_def] at h
    simp only at h
    by_cases h1 : a < 128
    · rw [if_pos h1] at h
      injection h with h
      injection h with h2 h3
      subst h2 h3
      unfold size
      simp [h1]
      omega
    rw [if_neg h1] at h
    by_cases h2 : a = 129
    · rw [if_pos h2] at h
      match r, h with
      | b :: q, h =>
        simp only at h
        by_cases h3 : 128 ≤ b
        · rw [if_pos h3] at h
          injection h with h
          injection h with h4 h5
          subst h4 h5
          have hb := hr b (by simp)
          unfold size
          rw [if_neg (by omega), if_pos (by omega)]
          simp [h2]
          omega
        · rw [if_neg h3] at h; cases h
    rw [if_neg h2] at h
    by_cases h3 : a = 130
    · rw [if_pos h3] at h
      match r, h with
      | b :: c :: q, h =>
        simp only at h
        by_cases h4 : 1 ≤ b
        · rw [if_pos h4] at h
          injection h with h
          injection h with h5 h6
          subst h5 h6
          have hb := hr b (by simp)
          have hc := hr c (by simp)
          unfold size
          rw [if_neg (by omega), if_neg (by omega)]
          simp [h3]
          omega
        · rw [if_neg h4] at h; cases h
    · rw [if_neg h3] at h; cases h
theorem sized_more {r : List Nat} {n k : Nat} (h : sized r = some (n, k)) (q : List Nat) : sized (r ++ q) = some (n, k) := by
  match r, h with
  | [a], h =>
    rw [sized.eq_def] at h
    simp only at h
    rw [List.singleton_append, sized.eq_def]
    simp only
    by_cases h1 : a < 128
    · rw [if_pos h1] at h ⊢; exact h
    · rw [if_neg h1] at h; split at h
      · cases h
      · split at h <;> cases h
  | [a, b], h =>
    rw [sized.eq_def] at h
    simp only at h
    rw [sized.eq_def]
    simp only [List.cons_append, List.nil_append]
    by_cases h1 : a < 128
    · rw [if_pos h1] at h ⊢; exact h
    · rw [if_neg h1] at h ⊢
      by_cases h2 : a = 129
      · rw [if_pos h2] at h ⊢; exact h
      · rw [if_neg h2] at h; split at h <;> cases h
  | a :: b :: c :: r, h => exact h
theorem sized_le {r : List Nat} {n k : Nat} (h : sized r = some (n, k)) : 1 ≤ k ∧ k ≤ r.length := by
  rw [sized.eq_def] at h
  split at h
  · cases h
  · rename_i a r
    split at h
    · injection h with h; injection h with h1 h2; subst h2; simp
    · split at h
      · split at h
        · split at h
          · injection h with h; injection h with h1 h2; subst h2; simp
          · cases h
        · cases h
      · split at h
        · split at h
          · split at h
            · injection h with h; injection h with h1 h2; subst h2; simp
            · cases h
          · cases h
        · cases h
end Go.Proofs.Ytkjofadabaecfaa.Bq
