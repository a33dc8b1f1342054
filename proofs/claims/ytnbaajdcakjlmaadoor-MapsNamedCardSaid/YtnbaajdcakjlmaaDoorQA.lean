/-
  QA: UNum JM JB JC JD JE JW, side by side.
-/
import Derived.Test.YtnbaajdcakjlmaaDoorQP
import Derived.Lib.AtoiTie
import Derived.Lib.ItoaNum

/-
  A host's number, against the library's words for numerals.
-/
namespace Go.Proofs.YtnbaajdcakjlmaaDoor.Uq

def nums (l : List UInt8) : List Nat := l.map fun u => u.toNat

theorem decFrom_val : ∀ (l : List UInt8) (acc : Nat), Digits (nums l) → Lib.decFrom acc l = some ((nums l).foldl (fun n c => n * 10 + (c - 48)) acc)
  | [], acc, _ => rfl
  | c :: r, acc, h => by
    have hc := h c.toNat (by simp [nums])
    rw [Lib.decFrom, show Lib.digitVal c = some (c.toNat - 48) from by unfold Lib.digitVal; rw [if_pos hc]]
    exact decFrom_val r _ fun x hx => h x (by simp [nums] at hx ⊢; exact .inr hx)

theorem snoc_cases (L : List Nat) : L = [] ∨ ∃ l c, L = l ++ [c] := by
  rcases List.eq_nil_or_concat L with h | ⟨l, c, h⟩
  · exact .inl h
  · exact .inr ⟨l, c, by rw [h]; simp⟩

theorem val_pos : ∀ (n : Nat) (L : List Nat), L.length = n → L ≠ [] → Digits L → L.getD 0 0 ≠ 48 → 1 ≤ val L ∧ Lib.decDigits (val L) = L.map UInt8.ofNat
  | 0, L, hn, h0, _, _ => absurd (List.eq_nil_of_length_eq_zero hn) h0
  | n + 1, L, hn, h0, hd, hz => by
    rcases snoc_cases L with rfl | ⟨l, c, rfl⟩
    · exact absurd rfl h0
    · have hc := hd c (by simp)
      have e1 : UInt8.ofNat (48 + (c - 48)) = UInt8.ofNat c := by congr 1; omega
      by_cases hl : l = []
      · subst hl
        have hz' : c ≠ 48 := by simpa using hz
        have hv : val ([] ++ [c]) = c - 48 := by simp [val]
        rw [hv]
        refine ⟨by omega, ?_⟩
        rw [Lib.decDigits, dif_pos (by omega), e1]; rfl
      · have hz' : l.getD 0 0 ≠ 48 := by
          cases l with
          | nil => exact absurd rfl hl
          | cons a r => simpa using hz
        obtain ⟨i1, i2⟩ := val_pos n l (by simpa using hn) hl (fun x hx => hd x (by simp [hx])) hz'
        rw [val_snoc]
        refine ⟨by omega, ?_⟩
        rw [Lib.decDigits, dif_neg (by omega), show (val l * 10 + (c - 48)) / 10 = val l from by omega, show (val l * 10 + (c - 48)) % 10 = c - 48 from by omega, i2, e1]
        simp

theorem nums_append (a b : List UInt8) : nums (a ++ b) = nums a ++ nums b := by simp [nums]
theorem decDigits_nums (v : Nat) : 1 ≤ v → Digits (nums (Lib.decDigits v)) ∧ val (nums (Lib.decDigits v)) = v ∧ (nums (Lib.decDigits v)).getD 0 0 ≠ 48 ∧ Lib.decDigits v ≠ [] ∧ ∀ k, 1 ≤ k → v < 10 ^ k → (Lib.decDigits v).length ≤ k := by
  induction v using Nat.strongRecOn with
  | _ v ih =>
    intro h1
    by_cases h : v < 10
    · have e : (UInt8.ofNat (48 + v)).toNat = 48 + v := by simp; omega
      rw [Lib.decDigits, dif_pos h]
      simp only [nums, List.map_cons, List.map_nil, e]
      refine ⟨fun x hx => ?_, ?_, ?_, by simp, fun k hk _ => by simpa using hk⟩
      · simp at hx; omega
      · simp [val]
      · simp; omega
    · have e : (UInt8.ofNat (48 + v % 10)).toNat = 48 + v % 10 := by simp; omega
      obtain ⟨i1, i2, i3, i4, i5⟩ := ih (v / 10) (by omega) (by omega)
      rw [Lib.decDigits, dif_neg h, nums_append]
      have e2 : nums [UInt8.ofNat (48 + v % 10)] = [48 + v % 10] := by simp only [nums, List.map_cons, List.map_nil, e]
      rw [e2]
      refine ⟨fun x hx => ?_, ?_, ?_, by simp, fun k hk hv => ?_⟩
      · rcases List.mem_append.1 hx with hx | hx
        · exact i1 x hx
        · simp at hx; omega
      · rw [val_snoc, i2]; omega
      · cases hh : nums (Lib.decDigits (v / 10)) with
        | nil =>
          have : Lib.decDigits (v / 10) = [] := by simpa [nums] using hh
          exact absurd this i4
        | cons a r => rw [hh] at i3; simpa using i3
      · match k, hk with
        | 1, _ => omega
        | k + 2, _ =>
          have := i5 (k + 1) (by omega) (by rw [Nat.pow_succ] at hv; omega)
          simp; omega

theorem nums_ofNat (l : List UInt8) : (nums l).map UInt8.ofNat = l := by
  unfold nums
  rw [List.map_map]
  conv => rhs; rw [← List.map_id l]
  exact List.map_congr_left fun x _ => by simp

/-- What a host's number is. -/
theorem num_yes {l : List UInt8} (h : numOk (nums l) = true) : ∃ v : Int, Lib.atoiAll l = .ok v ∧ 1 ≤ v ∧ v ≤ 65535 ∧ Lib.itoa v = l := by
  obtain ⟨h1, h2, h3, h4, h5⟩ := of_decide_eq_true h
  have hl : (nums l).length = l.length := by simp [nums]
  have hne : nums l ≠ [] := by intro e; rw [e] at h1; simp at h1
  obtain ⟨p1, p2⟩ := val_pos _ (nums l) rfl hne h4 h3
  rw [nums_ofNat] at p2
  have hd : Lib.decNat l = some (val (nums l)) := by
    unfold Lib.decNat
    rw [if_neg (by cases l with | nil => exact absurd rfl hne | cons a r => simp)]
    exact decFrom_val l 0 h4
  refine ⟨(val (nums l) : Int), ?_, by omega, by omega, ?_⟩
  · rw [Lib.atoiAll_short l (by omega)]
    cases l with
    | nil => exact absurd rfl hne
    | cons b r =>
      have hb := h4 b.toNat (by simp [nums])
      have e1 : (b == 45) = false := beq_eq_false_iff_ne.2 (by rintro rfl; simp at hb)
      have e2 : (b == 43) = false := beq_eq_false_iff_ne.2 (by rintro rfl; simp at hb)
      simp only [Lib.atoi, e1, e2, Bool.false_eq_true, if_false, hd]
      rfl
  · unfold Lib.itoa
    rw [if_neg (by omega), Int.toNat_natCast, p2]
theorem num_of {l : List UInt8} {v : Int} (h1 : 1 ≤ v) (h2 : v ≤ 65535) (h : Lib.itoa v = l) : numOk (nums l) = true := by
  unfold Lib.itoa at h
  rw [if_neg (by omega)] at h
  subst h
  obtain ⟨d1, d2, d3, d4, d5⟩ := decDigits_nums v.toNat (by omega)
  have hl : (nums (Lib.decDigits v.toNat)).length = (Lib.decDigits v.toNat).length := by simp [nums]
  have h5 := d5 5 (by decide) (by omega)
  have h0 := List.length_pos_iff.2 d4
  exact decide_eq_true ⟨by omega, by omega, d3, d1, by omega⟩
theorem num_no {l : List UInt8} (h : ∀ v : Int, Lib.atoiAll l = .ok v → ¬ (1 ≤ v ∧ v ≤ 65535)) : numOk (nums l) = false := by
  cases e : numOk (nums l) with
  | false => rfl
  | true =>
    obtain ⟨v, a, b, c, _⟩ := num_yes e
    exact absurd ⟨b, c⟩ (h v a)
theorem num_iff {l : List UInt8} {v : Int} (h : Lib.atoiAll l = .ok v) (h1 : 1 ≤ v) (h2 : v ≤ 65535) : numOk (nums l) = decide (Lib.itoa v = l) := by
  by_cases e : Lib.itoa v = l
  · rw [decide_eq_true e]; exact num_of h1 h2 e
  · rw [decide_eq_false e]
    cases e2 : numOk (nums l) with
    | false => rfl
    | true =>
      obtain ⟨v', a, _, _, d⟩ := num_yes e2
      rw [h] at a
      injection a with a
      subst a
      exact absurd d e
end Go.Proofs.YtnbaajdcakjlmaaDoor.Uq

/-
  Values as texts, plain: reading, writing and what is right, as functions on lists of numbers. What is left to read is the rest of the list; how deep lists may yet go is a number of levels.
-/
namespace Go.Proofs.YtnbaajdcakjlmaaDoor.Jq

/-- A value with all its fields, whatever they are. -/
inductive J where
  | mk (kind : Int) (bool : Bool) (int : Int) (text : List Nat) (names : List (List Nat)) (list : List J)
namespace J
def kind : J → Int | .mk k _ _ _ _ _ => k
def bool : J → Bool | .mk _ b _ _ _ _ => b
def int : J → Int | .mk _ _ n _ _ _ => n
def text : J → List Nat | .mk _ _ _ t _ _ => t
def names : J → List (List Nat) | .mk _ _ _ _ ns _ => ns
def list : J → List J | .mk _ _ _ _ _ l => l
end J
def nullJ : J := .mk 0 false 0 [] [] []
def boolJ (b : Bool) : J := .mk 1 b 0 [] [] []
def intJ (n : Int) : J := .mk 2 false n [] [] []
def textJ (t : List Nat) : J := .mk 3 false 0 t [] []
def listJ (l : List J) : J := .mk 4 false 0 [] [] l
def objJ (ns : List (List Nat)) (l : List J) : J := .mk 5 false 0 [] ns l

/-! Reading. Errors are numbers, as api has them. -/
abbrev R (α : Type) := Except Nat (α × List Nat)
def blank (c : Nat) : Bool := c == 32 || c == 9 || c == 10 || c == 13
def skip (l : List Nat) : List Nat := l.dropWhile blank
def word (w : List Nat) (v : J) (l : List Nat) : R J := if l.take w.length = w then .ok (v, l.drop w.length) else .error 51
def dig (c : Nat) : Bool := decide (48 ≤ c) && decide (c ≤ 57)
theorem dig_iff (c : Nat) : dig c = true ↔ 48 ≤ c ∧ c ≤ 57 := by simp [dig]
def top : Nat := 9007199254740991
/-- The digits that a text begins with. -/
def digs (l : List Nat) : List Nat := l.takeWhile dig
def NumBad (m : Bool) (r : List Nat) : Prop :=
  digs r = [] ∨ top < Uq.val (digs r) ∨ (m = true ∧ Uq.val (digs r) = 0) ∨ (r.drop (digs r).length).head? = some 46 ∨ (r.drop (digs r).length).head? = some 101 ∨ (r.drop (digs r).length).head? = some 69 ∨ ((digs r).head? = some 48 ∧ 1 < (digs r).length)
instance (m : Bool) (r : List Nat) : Decidable (NumBad m r) := inferInstanceAs (Decidable (_ ∨ _))
def numberOf (m : Bool) (r : List Nat) : R J :=
  if NumBad m r then .error 52 else .ok (intJ (if m then -(Uq.val (digs r) : Int) else (Uq.val (digs r) : Int)), r.drop (digs r).length)
def number (l : List Nat) : R J := if l.head? = some 45 then numberOf true (l.drop 1) else numberOf false l

def hexv (c : Nat) : Nat := if 48 ≤ c ∧ c ≤ 57 then c - 48 else if 97 ≤ c ∧ c ≤ 102 then c - 87 else if 65 ≤ c ∧ c ≤ 70 then c - 55 else 16
/-- What four hexadecimal signs say. -/
def four : List Nat → Option Nat
  | a :: b :: c :: d :: _ => if hexv a < 16 ∧ hexv b < 16 ∧ hexv c < 16 ∧ hexv d < 16 then some (((hexv a * 16 + hexv b) * 16 + hexv c) * 16 + hexv d) else none
  | _ => none
/-- A rune's bytes. -/
def runeBytes (r : Nat) : List Nat :=
  if r < 128 then [r] else if r < 2048 then [192 + r / 64, 128 + r % 64] else if r < 65536 then [224 + r / 4096, 128 + r / 64 % 64, 128 + r % 64] else [240 + r / 262144, 128 + r / 4096 % 64, 128 + r / 64 % 64, 128 + r % 64]
def okRune (r : Nat) : Bool := decide (r ≤ 1114111) && (decide (r < 55296) || decide (57343 < r))
/-- The rune that n bytes would say. -/
def runeOf : Nat → List Nat → Nat
  | 1, a :: _ => a
  | 2, a :: b :: _ => a % 32 * 64 + b % 64
  | 3, a :: b :: c :: _ => (a % 16 * 64 + b % 64) * 64 + c % 64
  | 4, a :: b :: c :: d :: _ => ((a % 8 * 64 + b % 64) * 64 + c % 64) * 64 + d % 64
  | _, _ => 0
def isRune (n : Nat) (l : List Nat) : Bool := decide (n ≤ l.length) && okRune (runeOf n l) && (runeBytes (runeOf n l) == l.take n)
/-- How many bytes the rune has with which a text begins; 0: there is none. -/
def long (l : List Nat) : Nat := if isRune 1 l then 1 else if isRune 2 l then 2 else if isRune 3 l then 3 else if isRune 4 l then 4 else 0

/-- A rune behind a backslash, and what is left. -/
def escape : List Nat → Option (Nat × List Nat)
  | [] => none
  | c :: r =>
    if c = 34 ∨ c = 92 ∨ c = 47 then some (c, r) else if c = 98 then some (8, r) else if c = 102 then some (12, r) else if c = 110 then some (10, r) else if c = 114 then some (13, r) else if c = 116 then some (9, r)
    else if c = 117 then
      match four r with
      | none => none
      | some n =>
        if n < 55296 ∨ 57343 < n then some (n, r.drop 4)
        else if n ≤ 56319 ∧ (r.drop 4).take 2 = [92, 117] then
          match four (r.drop 6) with
          | none => none
          | some m => if 56320 ≤ m ∧ m ≤ 57343 then some (65536 + (n - 55296) * 1024 + (m - 56320), r.drop 10) else none
        else none
    else none
/-- A text behind its first quotation mark: what it says, and what is left. -/
def textF : Nat → List Nat → R (List Nat)
  | 0, _ => .error 53
  | _ + 1, [] => .error 53
  | f + 1, c :: r =>
    if c < 32 then .error 53
    else if c = 34 then .ok ([], r)
    else if c = 92 then
      match escape r with
      | none => .error 53
      | some (x, r') => (textF f r').map fun q => (runeBytes x ++ q.1, q.2)
    else if long (c :: r) = 0 then .error 53
    else (textF f ((c :: r).drop (long (c :: r)))).map fun q => ((c :: r).take (long (c :: r)) ++ q.1, q.2)
def text (l : List Nat) : R (List Nat) := textF (l.length + 1) l

/-- The elements of a list, from the first one on. -/
def items (elem : List Nat → R J) : Nat → List Nat → R (List J)
  | 0, _ => .error 51
  | f + 1, l =>
    match elem l with
    | .error e => .error e
    | .ok (v, r) =>
      match skip r with
      | 93 :: r' => .ok ([v], r')
      | 44 :: r' => (items elem f (skip r')).map fun q => (v :: q.1, q.2)
      | _ => .error 51
/-- The names and elements of an object, from the first name on; ns: the names ahead. -/
def members (elem : List Nat → R J) : Nat → List (List Nat) → List Nat → R (List (List Nat) × List J)
  | 0, _, _ => .error 51
  | f + 1, ns, l =>
    match l with
    | 34 :: r =>
      match text r with
      | .error e => .error e
      | .ok (n, r1) =>
        if n ∈ ns then .error 54
        else match skip r1 with
          | 58 :: r2 =>
            match elem r2 with
            | .error e => .error e
            | .ok (v, r3) =>
              match skip r3 with
              | 125 :: r4 => .ok (([n], [v]), r4)
              | 44 :: r4 => (members elem f (ns ++ [n]) (skip r4)).map fun q => ((n :: q.1.1, v :: q.1.2), q.2)
              | _ => .error 51
          | _ => .error 51
    | _ => .error 51
def wNull : List Nat := [110, 117, 108, 108]
def wTrue : List Nat := [116, 114, 117, 101]
def wFalse : List Nat := [102, 97, 108, 115, 101]
/-- A value that is no list, from its first byte on. -/
def scalar (c : Nat) (l : List Nat) : R J :=
  if c = 110 then word wNull nullJ l
  else if c = 116 then word wTrue (boolJ true) l
  else if c = 102 then word wFalse (boolJ false) l
  else if c = 34 then (text (l.drop 1)).map fun q => (textJ q.1, q.2)
  else if c = 45 ∨ dig c = true then number l
  else .error 51
def listOf (elem : List Nat → R J) (l : List Nat) : R J :=
  match skip l with
  | 93 :: r => .ok (listJ [], r)
  | r => (items elem (r.length + 1) r).map fun q => (listJ q.1, q.2)
def objectOf (elem : List Nat → R J) (l : List Nat) : R J :=
  match skip l with
  | 125 :: r => .ok (objJ [] [], r)
  | r => (members elem (r.length + 1) [] r).map fun q => (objJ q.1.1 q.1.2, q.2)
/-- A value, with so many levels of lists. -/
def value : Nat → List Nat → R J
  | n, l =>
    match skip l with
    | [] => .error 51
    | c :: r =>
      if c = 91 then (match n with | 0 => .error 55 | n + 1 => listOf (value n) r)
      else if c = 123 then (match n with | 0 => .error 55 | n + 1 => objectOf (value n) r)
      else scalar c (c :: r)
/-- The value that a text says, or the error. -/
def parse (S : List Nat) : Except Nat J :=
  if 4096 < S.length then .error 50
  else match value 16 S with
    | .error e => .error e
    | .ok (v, r) => if skip r = [] then .ok v else .error 51

/-! Writing. -/
def digits (n : Nat) : List Nat := Uq.nums (Lib.decDigits n)
def decimal (n : Int) : List Nat := if n < 0 then 45 :: digits n.natAbs else digits n.toNat
def hexl (n : Nat) : Nat := if n < 10 then 48 + n else 87 + n
def q1 (c : Nat) : List Nat := if c < 32 then [92, 117, 48, 48, hexl (c / 16), hexl (c % 16)] else if c = 34 ∨ c = 92 then [92, c] else [c]
def quoted (t : List Nat) : List Nat := 34 :: (t.flatMap q1 ++ [34])
/-- Is a text the writing of runes? -/
def validF : Nat → List Nat → Bool
  | _, [] => true
  | 0, _ :: _ => false
  | f + 1, c :: r => if long (c :: r) = 0 then false else validF f ((c :: r).drop (long (c :: r)))
def valid (t : List Nat) : Bool := validF t.length t
def Form (n : Nat) (v : J) : Prop :=
  0 ≤ v.kind ∧ v.kind ≤ 5 ∧ (v.kind ≠ 1 → v.bool = false) ∧ (v.kind ≠ 2 → v.int = 0) ∧ (v.kind ≠ 3 → v.text = []) ∧ v.int ≤ 9007199254740991 ∧ -9007199254740991 ≤ v.int ∧ v.text.length ≤ 4096 ∧ valid v.text = true ∧
  (v.kind < 4 → v.names = [] ∧ v.list = []) ∧ (4 ≤ v.kind → 0 < n ∧ v.list.length ≤ 4096) ∧ (v.kind = 4 → v.names = []) ∧
  (v.kind = 5 → v.names.length = v.list.length ∧ (∀ t ∈ v.names, t.length ≤ 4096 ∧ valid t = true) ∧ v.names.Nodup)
/-- Can it be a value, with so many levels of lists? -/
def Good : Nat → J → Prop
  | 0, v => Form 0 v
  | n + 1, v => Form (n + 1) v ∧ ∀ x ∈ v.list, Good n x
def joined (l : List (List Nat)) : List Nat := [44].intercalate l
/-- A value's writing, of so many levels of lists. -/
def write : Nat → J → List Nat
  | n, v =>
    if v.kind = 0 then wNull
    else if v.kind = 1 then (if v.bool then wTrue else wFalse)
    else if v.kind = 2 then decimal v.int
    else if v.kind = 3 then quoted v.text
    else match n with
      | 0 => []
      | n + 1 =>
        if v.kind = 4 then 91 :: (joined (v.list.map (write n)) ++ [93])
        else 123 :: (joined (List.zipWith (fun t x => quoted t ++ 58 :: write n x) v.names v.list) ++ [125])
end Go.Proofs.YtnbaajdcakjlmaaDoor.Jq

/-
  Values as texts, plain: a text that was quoted is read as it was; a number that was written, too.
-/
namespace Go.Proofs.YtnbaajdcakjlmaaDoor.Jq

theorem runeOf_take (l : List Nat) : ∀ (k m : Nat), k ≤ m → m ≤ l.length → runeOf k (l.take m) = runeOf k l
  | 0, _, _, _ => by unfold runeOf; rfl
  | 1, m, h, hl => by
    match l, m, h, hl with
    | a :: l, m + 1, _, _ => rfl
    | [], m, h, hl => simp at hl; omega
  | 2, m, h, hl => by
    match l, m, h, hl with
    | a :: b :: l, m + 2, _, _ => rfl
    | [], m, h, hl => simp at hl; omega
    | [_], m, h, hl => simp at hl; omega
  | 3, m, h, hl => by
    match l, m, h, hl with
    | a :: b :: c :: l, m + 3, _, _ => rfl
    | [], m, h, hl => simp at hl; omega
    | [_], m, h, hl => simp at hl; omega
    | [_, _], m, h, hl => simp at hl; omega
  | 4, m, h, hl => by
    match l, m, h, hl with
    | a :: b :: c :: d :: l, m + 4, _, _ => rfl
    | [], m, h, hl => simp at hl; omega
    | [_], m, h, hl => simp at hl; omega
    | [_, _], m, h, hl => simp at hl; omega
    | [_, _, _], m, h, hl => simp at hl; omega
  | k + 5, m, h, hl => by unfold runeOf; rfl
theorem isRune_take {l : List Nat} {k m : Nat} (hk : k ≤ m) (hm : m ≤ l.length) : isRune k (l.take m) = isRune k l := by
  unfold isRune
  rw [runeOf_take l k m hk hm, List.take_take, Nat.min_eq_left hk, List.length_take, Nat.min_eq_left hm, decide_eq_true hk, decide_eq_true (Nat.le_trans hk hm)]
theorem long_cases (l : List Nat) : (long l = 0) ∨ (long l = 1 ∧ isRune 1 l = true) ∨ (long l = 2 ∧ isRune 1 l = false ∧ isRune 2 l = true) ∨ (long l = 3 ∧ isRune 1 l = false ∧ isRune 2 l = false ∧ isRune 3 l = true) ∨ (long l = 4 ∧ isRune 1 l = false ∧ isRune 2 l = false ∧ isRune 3 l = false ∧ isRune 4 l = true) := by
  unfold long
  cases h1 : isRune 1 l <;> cases h2 : isRune 2 l <;> cases h3 : isRune 3 l <;> cases h4 : isRune 4 l <;> simp
theorem isRune_len {n : Nat} {l : List Nat} (h : isRune n l = true) : n ≤ l.length ∧ runeBytes (runeOf n l) = l.take n := by
  unfold isRune at h
  simp only [Bool.and_eq_true, decide_eq_true_eq, beq_iff_eq] at h
  exact ⟨h.1.1, h.2⟩
theorem long_le (l : List Nat) (h : 0 < long l) : long l ≤ l.length := by
  rcases long_cases l with h1 | ⟨h1, h2⟩ | ⟨h1, _, h2⟩ | ⟨h1, _, _, h2⟩ | ⟨h1, _, _, _, h2⟩
  · omega
  all_goals (have := (isRune_len h2).1; omega)
/-- How many bytes a rune has is told by these bytes alone. -/
theorem long_same {l l' : List Nat} (h : 0 < long l) (ht : l.take (long l) = l'.take (long l)) : long l' = long l := by
  have hle := long_le l h
  have hle' : long l ≤ l'.length := by
    have := congrArg List.length ht
    rw [List.length_take, List.length_take] at this
    omega
  have key : ∀ k, k ≤ long l → isRune k l' = isRune k l := fun k hk => by rw [← isRune_take hk hle, ht, isRune_take hk hle']
  rcases long_cases l with h1 | ⟨h1, h2⟩ | ⟨h1, h2, h3⟩ | ⟨h1, h2, h3, h4⟩ | ⟨h1, h2, h3, h4, h5⟩
  · omega
  · rw [← key 1 (by omega)] at h2
    rw [h1]; unfold long; simp [h2]
  · rw [← key 1 (by omega)] at h2
    rw [← key 2 (by omega)] at h3
    rw [h1]; unfold long; simp [h2, h3]
  · rw [← key 1 (by omega)] at h2
    rw [← key 2 (by omega)] at h3
    rw [← key 3 (by omega)] at h4
    rw [h1]; unfold long; simp [h2, h3, h4]
  · rw [← key 1 (by omega)] at h2
    rw [← key 2 (by omega)] at h3
    rw [← key 3 (by omega)] at h4
    rw [← key 4 (by omega)] at h5
    rw [h1]; unfold long; simp [h2, h3, h4, h5]
theorem runeBytes_cases (r : Nat) : (r < 128 ∧ runeBytes r = [r]) ∨ (128 ≤ r ∧ 2 ≤ (runeBytes r).length ∧ ∀ x ∈ runeBytes r, 128 ≤ x) := by
  unfold runeBytes
  by_cases h1 : r < 128
  · exact .inl ⟨h1, by rw [if_pos h1]⟩
  · right
    rw [if_neg h1]
    refine ⟨by omega, ?_⟩
    split
    · exact ⟨by simp, fun x hx => by simp at hx; omega⟩
    · split
      · exact ⟨by simp, fun x hx => by simp at hx; omega⟩
      · exact ⟨by simp, fun x hx => by simp at hx; omega⟩
theorem rune_one {c : Nat} {r : List Nat} (h : long (c :: r) = 1) : c < 128 := by
  rcases long_cases (c :: r) with h1 | ⟨h1, h2⟩ | ⟨h1, _⟩ | ⟨h1, _⟩ | ⟨h1, _⟩
  · omega
  · obtain ⟨_, e⟩ := isRune_len h2
    rcases runeBytes_cases (runeOf 1 (c :: r)) with ⟨h3, _⟩ | ⟨_, h4, _⟩
    · exact h3
    · rw [e] at h4; simp at h4
  all_goals omega
theorem rune_more {l : List Nat} (h : 2 ≤ long l) : ∀ x ∈ l.take (long l), 128 ≤ x := by
  have main : isRune (long l) l = true := by
    rcases long_cases l with h1 | ⟨h1, h2⟩ | ⟨h1, _, h2⟩ | ⟨h1, _, _, h2⟩ | ⟨h1, _, _, _, h2⟩
    · omega
    all_goals (rw [h1]; exact h2)
  obtain ⟨hl, e⟩ := isRune_len main
  rcases runeBytes_cases (runeOf (long l) l) with ⟨_, h4⟩ | ⟨_, _, h4⟩
  · rw [e] at h4
    have := congrArg List.length h4
    rw [List.length_take] at this
    simp at this
    omega
  · rw [← e]; exact h4

theorem hexl_v : ∀ n, n < 16 → hexv (hexl n) = n := by decide
theorem q1_pos (c : Nat) : 1 ≤ (q1 c).length := by unfold q1; split; simp; split <;> simp
theorem q1_plain {c : Nat} (h1 : ¬ c < 32) (h2 : ¬ (c = 34 ∨ c = 92)) : q1 c = [c] := by unfold q1; rw [if_neg h1, if_neg h2]
theorem q1_high {l : List Nat} (h : ∀ x ∈ l, 128 ≤ x) : l.flatMap q1 = l := by
  induction l with
  | nil => rfl
  | cons c r ih =>
    have hc := h c (by simp)
    rw [List.flatMap_cons, q1_plain (by omega) (by omega), ih fun x hx => h x (by simp [hx])]
    rfl
theorem escape_low {c : Nat} (h : c < 32) (X : List Nat) : escape (117 :: 48 :: 48 :: hexl (c / 16) :: hexl (c % 16) :: X) = some (c, X) := by
  have h1 := hexl_v (c / 16) (by omega)
  have h2 := hexl_v (c % 16) (by omega)
  have e : four (48 :: 48 :: hexl (c / 16) :: hexl (c % 16) :: X) = some c := by
    rw [four, h1, h2, if_pos ⟨by decide, by decide, by omega, by omega⟩]
    have : hexv 48 = 0 := rfl
    rw [this]
    congr 1
    omega
  rw [escape]
  simp only [e]
  simp
  omega
theorem escape_sign {c : Nat} (h : c = 34 ∨ c = 92) (X : List Nat) : escape (c :: X) = some (c, X) := by
  rw [escape, if_pos (by omega)]
theorem bytes_low {c : Nat} (h : c < 128) : runeBytes c = [c] := by unfold runeBytes; rw [if_pos h]

/-- A text that was quoted is read as it was. -/
theorem text_back : ∀ (g : Nat) (t : List Nat) (f : Nat) (r : List Nat), validF g t = true → (t.flatMap q1).length + 1 ≤ f → textF f (t.flatMap q1 ++ 34 :: r) = .ok (t, r)
  | _, [], 0, _, _, hf => by simp at hf
  | _, [], f + 1, r, _, _ => by
    rw [List.flatMap_nil, List.nil_append, textF]
    simp
  | 0, c :: t, _, _, hv, _ => by rw [validF] at hv; cases hv
  | g + 1, c :: t, 0, _, _, hf => by simp at hf
  | g + 1, c :: t, f + 1, r, hv, hf => by
    rw [validF] at hv
    split at hv
    · cases hv
    · rename_i hl0
      have hl : 0 < long (c :: t) := by omega
      by_cases h1 : long (c :: t) = 1
      · have hc := rune_one h1
        rw [h1, List.drop_succ_cons, List.drop_zero] at hv
        have hq := q1_pos c
        rw [List.flatMap_cons, List.length_append] at hf
        have ih := text_back g t f r hv (by omega)
        rw [List.flatMap_cons, List.append_assoc]
        by_cases h32 : c < 32
        · have e : q1 c = [92, 117, 48, 48, hexl (c / 16), hexl (c % 16)] := by unfold q1; rw [if_pos h32]
          rw [e]
          show textF (f + 1) (92 :: 117 :: 48 :: 48 :: hexl (c / 16) :: hexl (c % 16) :: (t.flatMap q1 ++ 34 :: r)) = _
          rw [textF, if_neg (by decide), if_neg (by decide), if_pos rfl, escape_low h32]
          simp only [ih, bytes_low hc]
          rfl
        · by_cases hs : c = 34 ∨ c = 92
          · have e : q1 c = [92, c] := by unfold q1; rw [if_neg h32, if_pos hs]
            rw [e]
            show textF (f + 1) (92 :: c :: (t.flatMap q1 ++ 34 :: r)) = _
            rw [textF, if_neg (by decide), if_neg (by decide), if_pos rfl, escape_sign hs]
            simp only [ih, bytes_low hc]
            rfl
          · rw [q1_plain h32 hs]
            show textF (f + 1) (c :: (t.flatMap q1 ++ 34 :: r)) = _
            have hlong : long (c :: (t.flatMap q1 ++ 34 :: r)) = 1 := by
              rw [← h1]; exact long_same hl (by rw [h1]; rfl)
            rw [textF, if_neg h32, if_neg (by omega), if_neg (by omega), hlong, if_neg (by decide), List.drop_succ_cons, List.drop_zero, ih]
            rfl
      · have h2 : 2 ≤ long (c :: t) := by omega
        have hhi := rune_more h2
        have hle := long_le (c :: t) hl
        obtain ⟨n, en⟩ : ∃ n, long (c :: t) = n := ⟨_, rfl⟩
        rw [en] at hv h2 hhi hle
        have hsp : (c :: t).flatMap q1 = (c :: t).take n ++ ((c :: t).drop n).flatMap q1 := by
          conv => lhs; rw [← List.take_append_drop n (c :: t), List.flatMap_append, q1_high hhi]
        have hc : 128 ≤ c := hhi c (by cases n with | zero => omega | succ n => simp)
        rw [hsp, List.length_append, List.length_take] at hf
        have ih := text_back g ((c :: t).drop n) f r hv (by omega)
        rw [hsp, List.append_assoc]
        have hlong : long ((c :: t).take n ++ (((c :: t).drop n).flatMap q1 ++ 34 :: r)) = n := by
          rw [← en]
          refine long_same hl ?_
          rw [en, List.take_left' (by rw [List.length_take]; omega)]
        have htk : ((c :: t).take n ++ (((c :: t).drop n).flatMap q1 ++ 34 :: r)).take n = (c :: t).take n := List.take_left' (by rw [List.length_take]; omega)
        have hdr : ((c :: t).take n ++ (((c :: t).drop n).flatMap q1 ++ 34 :: r)).drop n = ((c :: t).drop n).flatMap q1 ++ 34 :: r := List.drop_left' (by rw [List.length_take]; omega)
        obtain ⟨Y, eY⟩ : ∃ Y, (c :: t).take n ++ (((c :: t).drop n).flatMap q1 ++ 34 :: r) = c :: Y := by
          cases n with
          | zero => omega
          | succ n => exact ⟨_, rfl⟩
        rw [eY] at hlong htk hdr ⊢
        rw [textF, if_neg (by omega), if_neg (by omega), if_neg (by omega), hlong, if_neg (by omega), hdr, ih, htk]
        show Except.ok (List.take n (c :: t) ++ List.drop n (c :: t), r) = _
        rw [List.take_append_drop]
theorem text_quoted {t : List Nat} (h : valid t = true) (r : List Nat) : text (t.flatMap q1 ++ 34 :: r) = .ok (t, r) :=
  text_back _ t _ r h (by rw [List.length_append, List.length_cons]; omega)

/-- What may follow a number. -/
def Stop (r : List Nat) : Prop := ∀ c, r.head? = some c → dig c = false ∧ c ≠ 46 ∧ c ≠ 101 ∧ c ≠ 69
theorem digs_app {d r : List Nat} (h : ∀ c ∈ d, dig c = true) (hr : Stop r) : digs (d ++ r) = d ∧ (d ++ r).drop d.length = r := by
  refine ⟨?_, List.drop_left⟩
  unfold digs
  rw [List.takeWhile_append_of_pos h]
  cases r with
  | nil => simp
  | cons a r => have := (hr a rfl).1; simp [this]
theorem digits_of (n : Nat) : (∀ c ∈ digits n, dig c = true) ∧ Uq.val (digits n) = n ∧ digits n ≠ [] ∧ ((digits n).head? = some 48 → (digits n).length = 1) := by
  by_cases h0 : n = 0
  · subst h0
    have e : digits 0 = [48] := by unfold digits; rw [Lib.decDigits]; rfl
    rw [e]
    exact ⟨by decide, by decide, by decide, fun _ => rfl⟩
  · obtain ⟨d1, d2, d3, d4, _⟩ := Uq.decDigits_nums n (by omega)
    refine ⟨fun c hc => (dig_iff c).2 (d1 c hc), d2, fun e => d4 (by simpa [digits, Uq.nums] using e), fun e => ?_⟩
    exfalso
    unfold digits at e
    cases hh : Uq.nums (Lib.decDigits n) with
    | nil => rw [hh] at e; cases e
    | cons a r => rw [hh] at e d3; simp at e d3; exact d3 e
theorem stop_heads {r : List Nat} (h : Stop r) : r.head? ≠ some 46 ∧ r.head? ≠ some 101 ∧ r.head? ≠ some 69 :=
  ⟨fun e => (h _ e).2.1 rfl, fun e => (h _ e).2.2.1 rfl, fun e => (h _ e).2.2.2 rfl⟩
/-- A number that was written is read as it was, if it may be. -/
theorem number_back (n : Int) (r : List Nat) (hr : Stop r) : number (decimal n ++ r) = if n ≤ 9007199254740991 ∧ -9007199254740991 ≤ n then .ok (intJ n, r) else .error 52 := by
  have et : top = 9007199254740991 := rfl
  obtain ⟨s1, s2, s3⟩ := stop_heads hr
  by_cases hn : n < 0
  · obtain ⟨d1, d2, d3, d4⟩ := digits_of n.natAbs
    obtain ⟨e1, e2⟩ := digs_app d1 hr
    have e : decimal n ++ r = 45 :: (digits n.natAbs ++ r) := by unfold decimal; rw [if_pos hn]; rfl
    have h45 : (45 :: (digits n.natAbs ++ r)).head? = some 45 := rfl
    rw [e, number, if_pos h45, List.drop_succ_cons, List.drop_zero, numberOf]
    by_cases hb : -9007199254740991 ≤ n
    · have hbad : ¬ NumBad true (digits n.natAbs ++ r) := by
        unfold NumBad
        rw [e1, e2, d2, et]
        rintro (h | h | h | h | h | h | h)
        · exact d3 h
        · omega
        · omega
        · exact s1 h
        · exact s2 h
        · exact s3 h
        · have := d4 h.1; omega
      rw [if_neg hbad, if_pos (show n ≤ 9007199254740991 ∧ -9007199254740991 ≤ n from ⟨by omega, hb⟩), e1, e2, d2]
      have : -(n.natAbs : Int) = n := by omega
      simp [this]
    · have hbad : NumBad true (digits n.natAbs ++ r) := by
        unfold NumBad
        rw [e1, d2, et]
        exact .inr (.inl (by omega))
      rw [if_pos hbad, if_neg (show ¬ (n ≤ 9007199254740991 ∧ -9007199254740991 ≤ n) from fun h => hb h.2)]
  · obtain ⟨d1, d2, d3, d4⟩ := digits_of n.toNat
    obtain ⟨e1, e2⟩ := digs_app d1 hr
    have e : decimal n ++ r = digits n.toNat ++ r := by unfold decimal; rw [if_neg hn]
    have h45 : (digits n.toNat ++ r).head? ≠ some 45 := by
      cases hh : digits n.toNat with
      | nil => exact absurd hh d3
      | cons a q =>
        have := (dig_iff a).1 (d1 a (by rw [hh]; simp))
        intro h
        simp at h
        omega
    rw [e, number, if_neg h45, numberOf]
    by_cases hb : n ≤ 9007199254740991
    · have hbad : ¬ NumBad false (digits n.toNat ++ r) := by
        unfold NumBad
        rw [e1, e2, d2, et]
        rintro (h | h | h | h | h | h | h)
        · exact d3 h
        · omega
        · exact absurd h.1 (by decide)
        · exact s1 h
        · exact s2 h
        · exact s3 h
        · have := d4 h.1; omega
      rw [if_neg hbad, if_pos (show n ≤ 9007199254740991 ∧ -9007199254740991 ≤ n from ⟨hb, by omega⟩), e1, e2, d2]
      have : (n.toNat : Int) = n := by omega
      simp [this]
    · have hbad : NumBad false (digits n.toNat ++ r) := by
        unfold NumBad
        rw [e1, d2, et]
        exact .inr (.inl (by omega))
      rw [if_pos hbad, if_neg (show ¬ (n ≤ 9007199254740991 ∧ -9007199254740991 ≤ n) from fun h => hb h.1)]
end Go.Proofs.YtnbaajdcakjlmaaDoor.Jq

/-
  Values as texts, plain: a value that was written is read as it was.
-/
namespace Go.Proofs.YtnbaajdcakjlmaaDoor.Jq

theorem good_form : ∀ {n : Nat} {v : J}, Good n v → Form n v
  | 0, _, h => h
  | _ + 1, _, h => h.1
theorem skip_sign {c : Nat} (h : blank c = false) (r : List Nat) : skip (c :: r) = c :: r := by
  unfold skip
  rw [List.dropWhile_cons, h]
  rfl
/-- How a writing begins. -/
def Start (l : List Nat) : Prop := ∃ c q, l = c :: q ∧ blank c = false ∧ c ≠ 93 ∧ c ≠ 125
theorem start_decimal (n : Int) : ∃ c q, decimal n = c :: q ∧ (c = 45 ∨ dig c = true) := by
  unfold decimal
  by_cases hn : n < 0
  · rw [if_pos hn]; exact ⟨45, _, rfl, .inl rfl⟩
  · rw [if_neg hn]
    obtain ⟨d1, _, d3, _⟩ := digits_of n.toNat
    cases h : digits n.toNat with
    | nil => exact absurd h d3
    | cons a q => exact ⟨a, q, rfl, .inr (d1 a (by rw [h]; simp))⟩
theorem blank_digit {c : Nat} (h : c = 45 ∨ dig c = true) : blank c = false ∧ c ≠ 93 ∧ c ≠ 125 ∧ c ≠ 91 ∧ c ≠ 123 ∧ c ≠ 110 ∧ c ≠ 116 ∧ c ≠ 102 ∧ c ≠ 34 := by
  have : c = 45 ∨ (48 ≤ c ∧ c ≤ 57) := by
    rcases h with h | h
    · exact .inl h
    · exact .inr ((dig_iff c).1 h)
  refine ⟨?_, by omega, by omega, by omega, by omega, by omega, by omega, by omega, by omega⟩
  unfold blank
  simp
  omega
theorem write_start {n : Nat} {v : J} (h : Good n v) : Start (write n v) := by
  have hf := good_form h
  obtain ⟨k0, k5, _, _, _, _, _, _, _, _, k4, _, _⟩ := hf
  unfold write
  by_cases h0 : v.kind = 0
  · rw [if_pos h0]; exact ⟨110, _, rfl, by decide, by decide, by decide⟩
  rw [if_neg h0]
  by_cases h1 : v.kind = 1
  · rw [if_pos h1]
    cases v.bool
    · exact ⟨102, _, rfl, by decide, by decide, by decide⟩
    · exact ⟨116, _, rfl, by decide, by decide, by decide⟩
  rw [if_neg h1]
  by_cases h2 : v.kind = 2
  · rw [if_pos h2]
    obtain ⟨c, q, e, hc⟩ := start_decimal v.int
    have := blank_digit hc
    exact ⟨c, q, e, this.1, this.2.1, this.2.2.1⟩
  rw [if_neg h2]
  by_cases h3 : v.kind = 3
  · rw [if_pos h3]; exact ⟨34, _, rfl, by decide, by decide, by decide⟩
  rw [if_neg h3]
  have hn := (k4 (by omega)).1
  cases n with
  | zero => omega
  | succ n =>
    show Start (if v.kind = 4 then _ else _)
    by_cases h4 : v.kind = 4
    · rw [if_pos h4]; exact ⟨91, _, rfl, by decide, by decide, by decide⟩
    · rw [if_neg h4]; exact ⟨123, _, rfl, by decide, by decide, by decide⟩

theorem joined_one (a : List Nat) : joined [a] = a := by simp [joined, List.intercalate]
theorem joined_more (a b : List Nat) (l : List (List Nat)) : joined (a :: b :: l) = a ++ 44 :: joined (b :: l) := by
  simp [joined, List.intercalate, List.intersperse]
theorem joined_len : ∀ (l : List (List Nat)), (∀ x ∈ l, x ≠ []) → l.length ≤ (joined l).length
  | [], _ => Nat.zero_le _
  | [a], h => by
    rw [joined_one]
    have := List.length_pos_iff.2 (h a (by simp))
    simp; omega
  | a :: b :: l, h => by
    rw [joined_more]
    have := joined_len (b :: l) fun x hx => h x (by simp at hx ⊢; exact .inr hx)
    simp at this ⊢; omega
theorem joined_start {a : List Nat} (h : Start a) (l : List (List Nat)) : Start (joined (a :: l)) := by
  obtain ⟨c, q, e, h1, h2, h3⟩ := h
  cases l with
  | nil => rw [joined_one]; exact ⟨c, q, e, h1, h2, h3⟩
  | cons b l => rw [joined_more, e]; exact ⟨c, _, rfl, h1, h2, h3⟩
theorem start_app {a : List Nat} (h : Start a) (r : List Nat) : Start (a ++ r) := by
  obtain ⟨c, q, e, h1, h2, h3⟩ := h
  exact ⟨c, q ++ r, by rw [e]; rfl, h1, h2, h3⟩
theorem skip_start {a : List Nat} (h : Start a) : skip a = a := by
  obtain ⟨c, q, e, h1, _⟩ := h
  rw [e, skip_sign h1]
theorem stop_sign {c : Nat} (r : List Nat) (h : dig c = false ∧ c ≠ 46 ∧ c ≠ 101 ∧ c ≠ 69) : Stop (c :: r) := by
  intro _ hx
  cases hx
  exact h
theorem stop_nil : Stop [] := fun _ hx => nomatch hx

/-- An element is read as it was written. -/
def Reads (elem : List Nat → R J) (w : J → List Nat) (x : J) : Prop := Start (w x) ∧ ∀ r, Stop r → elem (w x ++ r) = .ok (x, r)
theorem items_back (elem : List Nat → R J) (w : J → List Nat) (r : List Nat) : ∀ (l : List J) (f : Nat), l ≠ [] → l.length ≤ f → (∀ x ∈ l, Reads elem w x) → items elem f (joined (l.map w) ++ 93 :: r) = .ok (l, r)
  | [], _, h, _, _ => absurd rfl h
  | _ :: _, 0, _, hf, _ => by simp at hf
  | [x], f + 1, _, _, hr => by
    obtain ⟨_, h⟩ := hr x (by simp)
    rw [List.map_cons, List.map_nil, joined_one, items, h _ (stop_sign r (by decide))]
    simp only [skip_sign (show blank 93 = false from rfl)]
  | x :: y :: l, f + 1, _, hf, hr => by
    obtain ⟨_, h⟩ := hr x (by simp)
    have ih := items_back elem w r (y :: l) f (by simp) (by simp at hf ⊢; omega) fun z hz => hr z (List.mem_cons_of_mem _ hz)
    have hs : Start (joined ((y :: l).map w) ++ 93 :: r) := start_app (joined_start (hr y (by simp)).1 _) _
    rw [List.map_cons, List.map_cons, joined_more, ← List.map_cons, List.append_assoc, List.cons_append, items, h _ (stop_sign _ (by decide))]
    simp only [skip_sign (show blank 44 = false from rfl), skip_start hs, ih]
    rfl
/-- The writing of one name and its element. -/
def member (w : J → List Nat) (t : List Nat) (x : J) : List Nat := quoted t ++ 58 :: w x
theorem start_member (w : J → List Nat) (t : List Nat) (x : J) : Start (member w t x) := ⟨34, _, rfl, by decide, by decide, by decide⟩
theorem member_read {elem : List Nat → R J} {w : J → List Nat} {x : J} (h : Reads elem w x) {t : List Nat} (hv : valid t = true) {pre : List (List Nat)} (hn : t ∉ pre) (f : Nat) (c : Nat) (Y : List Nat) (hc : dig c = false ∧ c ≠ 46 ∧ c ≠ 101 ∧ c ≠ 69) :
    members elem (f + 1) pre (member w t x ++ c :: Y) = (match skip (c :: Y) with
              | 125 :: r4 => .ok (([t], [x]), r4)
              | 44 :: r4 => (members elem f (pre ++ [t]) (skip r4)).map fun q => ((t :: q.1.1, x :: q.1.2), q.2)
              | _ => .error 51) := by
  have e : member w t x ++ c :: Y = 34 :: (t.flatMap q1 ++ 34 :: (58 :: (w x ++ c :: Y))) := by
    unfold member quoted
    simp
  rw [e, members]
  simp only [text_quoted hv]
  rw [if_neg hn]
  simp only [skip_sign (show blank 58 = false from rfl), h.2 _ (stop_sign Y hc)]
  all_goals rfl
theorem members_back (elem : List Nat → R J) (w : J → List Nat) (r : List Nat) : ∀ (ns : List (List Nat)) (l : List J) (f : Nat) (pre : List (List Nat)), ns ≠ [] → ns.length = l.length → l.length ≤ f → (∀ x ∈ l, Reads elem w x) → (∀ t ∈ ns, valid t = true) → (pre ++ ns).Nodup →
    members elem f pre (joined (List.zipWith (member w) ns l) ++ 125 :: r) = .ok ((ns, l), r)
  | [], _, _, _, h, _, _, _, _, _ => absurd rfl h
  | _ :: _, [], _, _, _, h, _, _, _, _ => by simp at h
  | _ :: _, _ :: _, 0, _, _, _, hf, _, _, _ => by simp at hf
  | [t], [x], f + 1, pre, _, _, _, hr, hv, hn => by
    rw [List.zipWith_cons_cons, List.zipWith_nil_left, joined_one, member_read (hr x (by simp)) (hv t (by simp)) (fun h => (List.nodup_append.1 hn).2.2 t h t (by simp) rfl) f 125 r (by decide)]
    simp only [skip_sign (show blank 125 = false from rfl)]
  | [_], _ :: _ :: _, _, _, _, h, _, _, _, _ => by simp at h
  | _ :: _ :: _, [_], _, _, _, h, _, _, _, _ => by simp at h
  | t :: u :: ns, x :: y :: l, f + 1, pre, _, hl, hf, hr, hv, hn => by
    have ih := members_back elem w r (u :: ns) (y :: l) f (pre ++ [t]) (by simp) (by simpa using hl) (by simp at hf ⊢; omega) (fun z hz => hr z (List.mem_cons_of_mem _ hz)) (fun z hz => hv z (List.mem_cons_of_mem _ hz)) (by rw [List.append_assoc]; exact hn)
    have hs : Start (joined (List.zipWith (member w) (u :: ns) (y :: l)) ++ 125 :: r) := start_app (by rw [List.zipWith_cons_cons]; exact joined_start (start_member w u y) _) _
    rw [List.zipWith_cons_cons, List.zipWith_cons_cons, joined_more, ← List.zipWith_cons_cons, List.append_assoc, List.cons_append, member_read (hr x (by simp)) (hv t (by simp)) (fun h => (List.nodup_append.1 hn).2.2 t h t (by simp) rfl) f 44 _ (by decide)]
    simp only [skip_sign (show blank 44 = false from rfl), skip_start hs, ih]
    rfl

theorem start_list {l : List Nat} (h : Start l) (r : List Nat) : ∃ c q, l ++ r = c :: q ∧ blank c = false ∧ c ≠ 93 ∧ c ≠ 125 := start_app h r
theorem listOf_empty (elem : List Nat → R J) (r : List Nat) : listOf elem (93 :: r) = .ok (listJ [], r) := by
  unfold listOf
  simp only [skip_sign (show blank 93 = false from rfl)]
theorem listOf_start {elem : List Nat → R J} {l : List Nat} (h : Start l) : listOf elem l = (items elem (l.length + 1) l).map fun q => (listJ q.1, q.2) := by
  unfold listOf
  rw [skip_start h]
  obtain ⟨c, q, e, _, h1, _⟩ := h
  subst e
  split
  · rename_i r he; injection he with he _; exact absurd he h1
  · rfl
theorem objectOf_empty (elem : List Nat → R J) (r : List Nat) : objectOf elem (125 :: r) = .ok (objJ [] [], r) := by
  unfold objectOf
  simp only [skip_sign (show blank 125 = false from rfl)]
theorem objectOf_start {elem : List Nat → R J} {l : List Nat} (h : Start l) : objectOf elem l = (members elem (l.length + 1) [] l).map fun q => (objJ q.1.1 q.1.2, q.2) := by
  unfold objectOf
  rw [skip_start h]
  obtain ⟨c, q, e, _, _, h1⟩ := h
  subst e
  split
  · rename_i r he; injection he with he _; exact absurd he h1
  · rfl
theorem listOf_back {elem : List Nat → R J} {w : J → List Nat} {l : List J} (h : ∀ x ∈ l, Reads elem w x) (r : List Nat) : listOf elem (joined (l.map w) ++ 93 :: r) = .ok (listJ l, r) := by
  cases l with
  | nil => exact listOf_empty elem r
  | cons x l =>
    have hs : Start (joined ((x :: l).map w) ++ 93 :: r) := start_app (by rw [List.map_cons]; exact joined_start (h x (by simp)).1 _) _
    have hlen : (x :: l).length ≤ (joined ((x :: l).map w)).length := by
      have := joined_len ((x :: l).map w) fun y hy => by
        obtain ⟨z, hz, e⟩ := List.mem_map.1 hy
        obtain ⟨c, q, e', _⟩ := (h z hz).1
        rw [← e, e']; simp
      simpa using this
    rw [listOf_start hs, items_back elem w r (x :: l) _ (by simp) (by rw [List.length_append]; omega) h]
    rfl
theorem objectOf_back {elem : List Nat → R J} {w : J → List Nat} {ns : List (List Nat)} {l : List J} (h : ∀ x ∈ l, Reads elem w x) (hl : ns.length = l.length) (hv : ∀ t ∈ ns, valid t = true) (hn : ns.Nodup) (r : List Nat) :
    objectOf elem (joined (List.zipWith (member w) ns l) ++ 125 :: r) = .ok (objJ ns l, r) := by
  match ns, l, hl with
  | [], [], _ => exact objectOf_empty elem r
  | t :: ns, x :: l, hl =>
    have hs : Start (joined (List.zipWith (member w) (t :: ns) (x :: l)) ++ 125 :: r) := start_app (by rw [List.zipWith_cons_cons]; exact joined_start (start_member w t x) _) _
    have hlen : (x :: l).length ≤ (joined (List.zipWith (member w) (t :: ns) (x :: l))).length := by
      have := joined_len (List.zipWith (member w) (t :: ns) (x :: l)) fun y hy => by
        obtain ⟨i, hi, e⟩ := List.mem_iff_getElem.1 hy
        rw [← e, List.getElem_zipWith]
        unfold member quoted
        simp
      rw [List.length_zipWith, hl, Nat.min_self] at this
      exact this
    rw [objectOf_start hs, members_back elem w r (t :: ns) (x :: l) _ [] (by simp) hl (by rw [List.length_append]; omega) h hv (by simpa using hn)]
    rfl

theorem value_sign {n c : Nat} {r : List Nat} (hb : blank c = false) (h1 : c ≠ 91) (h2 : c ≠ 123) : value n (c :: r) = scalar c (c :: r) := by
  rw [value]
  simp only [skip_sign hb]
  rw [if_neg h1, if_neg h2]
theorem value_list (n : Nat) (r : List Nat) : value (n + 1) (91 :: r) = listOf (value n) r := by
  rw [value]
  simp only [skip_sign (show blank 91 = false from rfl)]
  rfl
theorem value_object (n : Nat) (r : List Nat) : value (n + 1) (123 :: r) = objectOf (value n) r := by
  rw [value]
  simp only [skip_sign (show blank 123 = false from rfl)]
  rfl
theorem word_back (w : List Nat) (v : J) (r : List Nat) : word w v (w ++ r) = .ok (v, r) := by
  unfold word
  rw [List.take_left, if_pos rfl, List.drop_left]
theorem J.eta (v : J) : v = .mk v.kind v.bool v.int v.text v.names v.list := by cases v; rfl

theorem value_step (n : Nat) (v : J) (r : List Nat) (h : Good n v) (hr : Stop r) (ih : ∀ m, n = m + 1 → ∀ x ∈ v.list, ∀ r, Stop r → value m (write m x ++ r) = .ok (x, r)) : value n (write n v ++ r) = .ok (v, r) := by
  obtain ⟨k0, k5, fb, fi, ft, i1, i2, t1, t2, f4, g4, f5, f6⟩ := good_form h
  have eta := v.eta
  by_cases h0 : v.kind = 0
  · rw [h0, fb (by omega), fi (by omega), ft (by omega), (f4 (by omega)).1, (f4 (by omega)).2] at eta
    have e : write n v = wNull := by unfold write; rw [if_pos h0]
    rw [e]
    show value n (110 :: _) = _
    rw [value_sign rfl (by decide) (by decide), scalar, if_pos rfl]
    exact (word_back wNull nullJ r).trans (by rw [eta]; rfl)
  by_cases h1 : v.kind = 1
  · rw [h1, fi (by omega), ft (by omega), (f4 (by omega)).1, (f4 (by omega)).2] at eta
    have e : write n v = if v.bool then wTrue else wFalse := by unfold write; rw [if_neg h0, if_pos h1]
    rw [e]
    cases hb : v.bool
    · rw [hb] at eta
      show value n (102 :: _) = _
      rw [value_sign rfl (by decide) (by decide), scalar, if_neg (by decide), if_neg (by decide), if_pos rfl]
      exact (word_back wFalse (boolJ false) r).trans (by rw [eta]; rfl)
    · rw [hb] at eta
      show value n (116 :: _) = _
      rw [value_sign rfl (by decide) (by decide), scalar, if_neg (by decide), if_pos rfl]
      exact (word_back wTrue (boolJ true) r).trans (by rw [eta]; rfl)
  by_cases h2 : v.kind = 2
  · rw [h2, fb (by omega), ft (by omega), (f4 (by omega)).1, (f4 (by omega)).2] at eta
    have e : write n v = decimal v.int := by unfold write; rw [if_neg h0, if_neg h1, if_pos h2]
    rw [e]
    obtain ⟨c, q, ec, hc⟩ := start_decimal v.int
    have nb := number_back v.int r hr
    rw [if_pos ⟨i1, i2⟩] at nb
    obtain ⟨b1, b2, b3, b4, b5, b6, b7, b8, b9⟩ := blank_digit hc
    rw [ec] at nb ⊢
    rw [List.cons_append] at nb ⊢
    rw [value_sign b1 b4 b5, scalar, if_neg b6, if_neg b7, if_neg b8, if_neg b9, if_pos hc, nb, eta]
    rfl
  by_cases h3 : v.kind = 3
  · rw [h3, fb (by omega), fi (by omega), (f4 (by omega)).1, (f4 (by omega)).2] at eta
    have e : write n v ++ r = 34 :: (v.text.flatMap q1 ++ 34 :: r) := by
      unfold write quoted; rw [if_neg h0, if_neg h1, if_neg h2, if_pos h3]; simp
    rw [e, value_sign rfl (by decide) (by decide), scalar, if_neg (by decide), if_neg (by decide), if_neg (by decide), if_pos rfl, List.drop_succ_cons, List.drop_zero, text_quoted t2, eta]
    rfl
  obtain ⟨hn, _⟩ := g4 (by omega)
  cases n with
  | zero => omega
  | succ n =>
    have hR : ∀ x ∈ v.list, Reads (value n) (write n) x := fun x hx => ⟨write_start (h.2 x hx), fun r hr => ih n rfl x hx r hr⟩
    by_cases h4 : v.kind = 4
    · rw [h4, fb (by omega), fi (by omega), ft (by omega), f5 h4] at eta
      have e : write (n + 1) v ++ r = 91 :: (joined (v.list.map (write n)) ++ 93 :: r) := by
        rw [write, if_neg h0, if_neg h1, if_neg h2, if_neg h3, if_pos h4]; simp
      rw [e, value_list, listOf_back hR, eta]
      rfl
    · have h5 : v.kind = 5 := by omega
      rw [h5, fb (by omega), fi (by omega), ft (by omega)] at eta
      obtain ⟨m1, m2, m3⟩ := f6 h5
      have e : write (n + 1) v ++ r = 123 :: (joined (List.zipWith (member (write n)) v.names v.list) ++ 125 :: r) := by
        rw [write, if_neg h0, if_neg h1, if_neg h2, if_neg h3, if_neg h4]
        show _ :: _ ++ r = _
        unfold member
        simp
      rw [e, value_object, objectOf_back hR m1 (fun t ht => (m2 t ht).2) m3, eta]
      rfl
/-- A value that was written is read as it was. -/
theorem value_back : ∀ (n : Nat) (v : J) (r : List Nat), Good n v → Stop r → value n (write n v ++ r) = .ok (v, r)
  | 0, v, r, h, hr => value_step 0 v r h hr fun m e => by omega
  | n + 1, v, r, h, hr => value_step (n + 1) v r h hr fun m e x hx r hr => by
    have : n = m := by omega
    subst this
    exact value_back n x r (h.2 x hx) hr
theorem parse_write {v : J} (h : Good 16 v) (hl : (write 16 v).length ≤ 4096) : parse (write 16 v) = .ok v := by
  have := value_back 16 v [] h stop_nil
  rw [List.append_nil] at this
  rw [parse, if_neg (by omega), this]
  rfl
end Go.Proofs.YtnbaajdcakjlmaaDoor.Jq

/-
  Values as texts, plain: what is read is right.
-/
namespace Go.Proofs.YtnbaajdcakjlmaaDoor.Jq

theorem map_ok {α β : Type} {x : Except Nat α} {f : α → β} {y : β} (h : x.map f = .ok y) : ∃ z, x = .ok z ∧ f z = y := by
  cases x with
  | error e => cases h
  | ok z => exact ⟨z, rfl, by injection h⟩
theorem skip_len (l : List Nat) : (skip l).length ≤ l.length := (List.dropWhile_sublist blank).length_le

/-! A rune's bytes are a rune. -/
theorem runeBytes_len (r : Nat) : (runeBytes r).length = if r < 128 then 1 else if r < 2048 then 2 else if r < 65536 then 3 else 4 := by
  unfold runeBytes
  by_cases h1 : r < 128
  · rw [if_pos h1, if_pos h1]; rfl
  rw [if_neg h1, if_neg h1]
  by_cases h2 : r < 2048
  · rw [if_pos h2, if_pos h2]; rfl
  rw [if_neg h2, if_neg h2]
  by_cases h3 : r < 65536
  · rw [if_pos h3, if_pos h3]; rfl
  rw [if_neg h3, if_neg h3]; rfl
theorem rune_len (r : Nat) : (r < 128 → (runeBytes r).length = 1) ∧ (128 ≤ r → r < 2048 → (runeBytes r).length = 2) ∧ (2048 ≤ r → r < 65536 → (runeBytes r).length = 3) ∧ (65536 ≤ r → (runeBytes r).length = 4) := by
  rw [runeBytes_len]
  split
  · omega
  · split
    · omega
    · split <;> omega
theorem rune_back {r : Nat} (hr : r ≤ 1114111) (t : List Nat) : runeOf (runeBytes r).length (runeBytes r ++ t) = r := by
  unfold runeBytes
  by_cases h1 : r < 128
  · rw [if_pos h1]; rfl
  rw [if_neg h1]
  by_cases h2 : r < 2048
  · rw [if_pos h2]
    show (192 + r / 64) % 32 * 64 + (128 + r % 64) % 64 = r
    omega
  rw [if_neg h2]
  by_cases h3 : r < 65536
  · rw [if_pos h3]
    show ((224 + r / 4096) % 16 * 64 + (128 + r / 64 % 64) % 64) * 64 + (128 + r % 64) % 64 = r
    omega
  rw [if_neg h3]
  show (((240 + r / 262144) % 8 * 64 + (128 + r / 4096 % 64) % 64) * 64 + (128 + r / 64 % 64) % 64) * 64 + (128 + r % 64) % 64 = r
  omega
theorem isRune_self {r : Nat} (hr : okRune r = true) (t : List Nat) : isRune (runeBytes r).length (runeBytes r ++ t) = true := by
  have h1 : r ≤ 1114111 := by unfold okRune at hr; simp at hr; exact hr.1
  unfold isRune
  rw [rune_back h1 t, hr, List.take_left, List.length_append, decide_eq_true (Nat.le_add_right _ _)]
  simp
theorem head_small {r a : Nat} {q : List Nat} (e : runeBytes r = a :: q) : (r < 128 → a = r) ∧ (r < 2048 → a < 224) ∧ (r < 65536 → a < 240) ∧ (128 ≤ r → 192 ≤ a) ∧ (2048 ≤ r → 224 ≤ a) ∧ (65536 ≤ r → 240 ≤ a) := by
  unfold runeBytes at e
  by_cases h1 : r < 128
  · rw [if_pos h1] at e; injection e with e _; omega
  rw [if_neg h1] at e
  by_cases h2 : r < 2048
  · rw [if_pos h2] at e; injection e with e _; omega
  rw [if_neg h2] at e
  by_cases h3 : r < 65536
  · rw [if_pos h3] at e; injection e with e _; omega
  rw [if_neg h3] at e
  injection e with e _; omega
/-- Fewer of its bytes are none. -/
theorem isRune_less {r k : Nat} {t : List Nat} (hk : 0 < k) (hl : k < (runeBytes r).length) : isRune k (runeBytes r ++ t) = false := by
  cases hb : isRune k (runeBytes r ++ t) with
  | false => rfl
  | true =>
    exfalso
    obtain ⟨_, e⟩ := isRune_len hb
    rw [List.take_append_of_le_length (by omega)] at e
    generalize runeOf k (runeBytes r ++ t) = x at e
    obtain ⟨a, q, ea⟩ : ∃ a q, runeBytes r = a :: q := by
      cases h : runeBytes r with
      | nil => rw [h] at hl; simp at hl
      | cons a q => exact ⟨a, q, rfl⟩
    have hs := head_small ea
    obtain ⟨k, rfl⟩ : ∃ j, k = j + 1 := ⟨k - 1, by omega⟩
    rw [ea] at e
    rw [List.take_succ_cons] at e
    have hs' := head_small e
    have hlen' := congrArg List.length e
    rw [List.length_cons, List.length_take] at hlen'
    have hq : q.length + 1 = (runeBytes r).length := by rw [ea]; rfl
    have f1 := rune_len r
    have f2 := rune_len x
    omega
theorem long_rune {r : Nat} (hr : okRune r = true) (t : List Nat) : long (runeBytes r ++ t) = (runeBytes r).length := by
  have hs := isRune_self hr t
  have hl := fun k h1 h2 => @isRune_less r k t h1 h2
  have hlen := runeBytes_len r
  have hc : (runeBytes r).length = 1 ∨ (runeBytes r).length = 2 ∨ (runeBytes r).length = 3 ∨ (runeBytes r).length = 4 := by
    rw [hlen]; split; simp; split; simp; split <;> simp
  clear hlen
  unfold long
  rcases hc with h | h | h | h
  · rw [h] at hs; rw [if_pos hs, h]
  · rw [h] at hs; rw [hl 1 (by omega) (by omega), if_neg (by decide), if_pos hs, h]
  · rw [h] at hs; rw [hl 1 (by omega) (by omega), hl 2 (by omega) (by omega), if_neg (by decide), if_neg (by decide), if_pos hs, h]
  · rw [h] at hs; rw [hl 1 (by omega) (by omega), hl 2 (by omega) (by omega), hl 3 (by omega) (by omega), if_neg (by decide), if_neg (by decide), if_neg (by decide), if_pos hs, h]

theorem validF_more : ∀ (g h : Nat) (t : List Nat), validF g t = true → t.length ≤ h → validF h t = true
  | _, 0, [], _, _ => by rw [validF]
  | _, _ + 1, [], _, _ => by rw [validF]
  | 0, _, _ :: _, h, _ => by rw [validF] at h; cases h
  | _ + 1, 0, _ :: _, _, h => by simp at h
  | g + 1, h + 1, c :: t, hv, hl => by
    rw [validF] at hv ⊢
    split at hv
    · cases hv
    · rename_i h0
      rw [if_neg h0]
      exact validF_more g h _ hv (by rw [List.length_drop]; simp at hl ⊢; omega)
/-- A rune and what is right are right. -/
theorem valid_chunk {l t : List Nat} {n : Nat} (hn : 0 < n) (hl : long (l ++ t) = n) (hlen : l.length = n) (ht : valid t = true) : valid (l ++ t) = true := by
  cases l with
  | nil => simp at hlen; omega
  | cons c l =>
    unfold valid
    rw [List.cons_append] at hl ⊢
    rw [List.length_cons, validF, if_neg (by omega), hl]
    have : (c :: (l ++ t)).drop n = t := by rw [← List.cons_append]; exact List.drop_left' hlen
    rw [this]
    exact validF_more _ _ t ht (by rw [List.length_append]; omega)
theorem valid_rune {r : Nat} (hr : okRune r = true) {t : List Nat} (ht : valid t = true) : valid (runeBytes r ++ t) = true := by
  refine valid_chunk ?_ (long_rune hr t) rfl ht
  rw [runeBytes_len]; split; simp; split; simp; split <;> simp

theorem four_lt {l : List Nat} {n : Nat} (h : four l = some n) : n < 65536 ∧ 4 ≤ l.length := by
  match l, h with
  | a :: b :: c :: d :: r, h =>
    rw [four] at h
    split at h
    · rename_i g
      injection h with h
      exact ⟨by omega, by simp⟩
    · cases h
theorem ok_low {x : Nat} (h : x < 55296) : okRune x = true := by unfold okRune; simp; omega
theorem ok_high {x : Nat} (h : x ≤ 1114111) (h2 : 57343 < x) : okRune x = true := by unfold okRune; simp; omega
/-- What a backslash says is a rune, with as many bytes as its writing at most. -/
theorem escape_ok {l r : List Nat} {x : Nat} (h : escape l = some (x, r)) : okRune x = true ∧ (runeBytes x).length + r.length ≤ l.length + 1 ∧ r.length < l.length := by
  match l, h with
  | c :: r0, h =>
    rw [escape] at h
    have one : ∀ y, y < 128 → some (y, r0) = some (x, r) → okRune x = true ∧ (runeBytes x).length + r.length ≤ (c :: r0).length + 1 ∧ r.length < (c :: r0).length := by
      intro y hy e
      injection e with e
      injection e with e1 e2
      subst e1 e2
      refine ⟨ok_low (by omega), ?_, by simp⟩
      rw [bytes_low hy]
      simp
      omega
    split at h
    · rename_i hc; exact one c (by omega) h
    split at h
    · exact one 8 (by omega) h
    split at h
    · exact one 12 (by omega) h
    split at h
    · exact one 10 (by omega) h
    split at h
    · exact one 13 (by omega) h
    split at h
    · exact one 9 (by omega) h
    split at h
    · split at h
      · cases h
      · rename_i n hn
        obtain ⟨n1, n2⟩ := four_lt hn
        split at h
        · rename_i g
          injection h with h
          injection h with e1 e2
          subst e1 e2
          refine ⟨?_, ?_, ?_⟩
          · rcases g with g | g
            · exact ok_low g
            · exact ok_high (by omega) g
          · rw [runeBytes_len, List.length_drop, List.length_cons]
            split
            · omega
            · split
              · omega
              · omega
          · rw [List.length_drop, List.length_cons]; omega
        · split at h
          · split at h
            · cases h
            · rename_i g2 m hm
              obtain ⟨m1, m2⟩ := four_lt hm
              rw [List.length_drop] at m2
              split at h
              · injection h with h
                injection h with e1 e2
                subst e1 e2
                refine ⟨ok_high (by omega) (by omega), ?_, ?_⟩
                · rw [runeBytes_len, List.length_drop, List.length_cons]
                  split
                  · omega
                  · split
                    · omega
                    · split <;> omega
                · rw [List.length_drop, List.length_cons]; omega
              · cases h
          · cases h
    · cases h
theorem textF_ok : ∀ (f : Nat) (l t r : List Nat), textF f l = .ok (t, r) → valid t = true ∧ t.length + r.length ≤ l.length ∧ r.length < l.length
  | 0, _, _, _, h => by rw [textF] at h; cases h
  | f + 1, [], _, _, h => by rw [textF] at h; cases h
  | f + 1, c :: l, t, r, h => by
    rw [textF] at h
    split at h
    · cases h
    split at h
    · injection h with h
      injection h with e1 e2
      subst e1 e2
      exact ⟨rfl, by simp, by simp⟩
    split at h
    · split at h
      · cases h
      · rename_i x r' he
        obtain ⟨⟨t', r''⟩, e1, e2⟩ := map_ok h
        injection e2 with e2 e3
        obtain ⟨v1, v2, v3⟩ := textF_ok f _ _ _ e1
        obtain ⟨x1, x2, x3⟩ := escape_ok he
        subst e2 e3
        refine ⟨valid_rune x1 v1, ?_, ?_⟩
        · simp; omega
        · simp; omega
    split at h
    · cases h
    · rename_i h0
      obtain ⟨⟨t', r''⟩, e1, e2⟩ := map_ok h
      injection e2 with e2 e3
      obtain ⟨v1, v2, v3⟩ := textF_ok f _ _ _ e1
      have hp : 0 < long (c :: l) := by omega
      have hle := long_le _ hp
      have htl : ((c :: l).take (long (c :: l))).length = long (c :: l) := by rw [List.length_take]; omega
      rw [List.length_drop] at v2 v3
      simp only at e2 e3
      subst e2 e3
      refine ⟨valid_chunk hp (long_same hp ?_) htl v1, ?_, by omega⟩
      · rw [List.take_left' htl]
      · rw [List.length_append, htl]; omega
theorem text_ok {l t r : List Nat} (h : text l = .ok (t, r)) : valid t = true ∧ t.length + r.length ≤ l.length ∧ r.length < l.length := textF_ok _ l t r h

theorem good_plain {n : Nat} {v : J} (hk : 0 ≤ v.kind ∧ v.kind < 4) (h1 : v.kind ≠ 1 → v.bool = false) (h2 : v.kind ≠ 2 → v.int = 0) (h3 : v.kind ≠ 3 → v.text = []) (i1 : v.int ≤ 9007199254740991) (i2 : -9007199254740991 ≤ v.int) (t1 : v.text.length ≤ 4096) (t2 : valid v.text = true) (hn : v.names = []) (hl : v.list = []) : Good n v := by
  have hf : Form n v := ⟨hk.1, by omega, h1, h2, h3, i1, i2, t1, t2, fun _ => ⟨hn, hl⟩, fun h => by omega, fun h => by omega, fun h => by omega⟩
  cases n with
  | zero => exact hf
  | succ n => exact ⟨hf, fun x hx => by rw [hl] at hx; cases hx⟩
theorem word_ok {w l r : List Nat} {v x : J} (h : word w v l = .ok (x, r)) (hw : 0 < w.length) : x = v ∧ r.length < l.length := by
  unfold word at h
  split at h
  · rename_i e
    injection h with h
    injection h with e1 e2
    have := congrArg List.length e
    rw [List.length_take] at this
    subst e1 e2
    exact ⟨rfl, by rw [List.length_drop]; omega⟩
  · cases h
theorem numberOf_ok {n : Nat} {m : Bool} {l r : List Nat} {x : J} (h : numberOf m l = .ok (x, r)) : Good n x ∧ r.length < l.length := by
  unfold numberOf at h
  split at h
  · cases h
  · rename_i hb
    injection h with h
    injection h with e1 e2
    subst e1 e2
    have hd : digs l ≠ [] := fun e => hb (.inl e)
    have ht : Uq.val (digs l) ≤ 9007199254740991 := by
      have : ¬ top < Uq.val (digs l) := fun e => hb (.inr (.inl e))
      have et : top = 9007199254740991 := rfl
      omega
    have hlen : (digs l).length ≤ l.length := (List.takeWhile_sublist dig).length_le
    have := List.length_pos_iff.2 hd
    refine ⟨good_plain ⟨(by decide : (0 : Int) ≤ 2), (by decide : (2 : Int) < 4)⟩ (fun _ => rfl) (fun h => absurd rfl h) (fun _ => rfl) ?_ ?_ (Nat.zero_le _) rfl rfl rfl, by rw [List.length_drop]; omega⟩
    · show (if m = true then -(Uq.val (digs l) : Int) else (Uq.val (digs l) : Int)) ≤ 9007199254740991
      split <;> omega
    · show -9007199254740991 ≤ (if m = true then -(Uq.val (digs l) : Int) else (Uq.val (digs l) : Int))
      split <;> omega
theorem number_ok {n : Nat} {l r : List Nat} {x : J} (h : number l = .ok (x, r)) : Good n x ∧ r.length < l.length := by
  unfold number at h
  split at h
  · obtain ⟨h1, h2⟩ := numberOf_ok (n := n) h
    exact ⟨h1, by rw [List.length_drop] at h2; omega⟩
  · exact numberOf_ok h
theorem scalar_ok {n c : Nat} {l r : List Nat} {x : J} (hl : l.length ≤ 4096) (h : scalar c l = .ok (x, r)) : Good n x ∧ r.length < l.length := by
  unfold scalar at h
  split at h
  · obtain ⟨e, h2⟩ := word_ok h (by decide)
    subst e
    exact ⟨good_plain ⟨by decide, by decide⟩ (fun _ => rfl) (fun _ => rfl) (fun _ => rfl) (by decide) (by decide) (Nat.zero_le _) rfl rfl rfl, h2⟩
  split at h
  · obtain ⟨e, h2⟩ := word_ok h (by decide)
    subst e
    exact ⟨good_plain ⟨by decide, by decide⟩ (fun h => absurd rfl h) (fun _ => rfl) (fun _ => rfl) (by decide) (by decide) (Nat.zero_le _) rfl rfl rfl, h2⟩
  split at h
  · obtain ⟨e, h2⟩ := word_ok h (by decide)
    subst e
    exact ⟨good_plain ⟨by decide, by decide⟩ (fun _ => rfl) (fun _ => rfl) (fun _ => rfl) (by decide) (by decide) (Nat.zero_le _) rfl rfl rfl, h2⟩
  split at h
  · obtain ⟨⟨t, r'⟩, e1, e2⟩ := map_ok h
    injection e2 with e2 e3
    simp only at e2 e3
    subst e2 e3
    obtain ⟨v1, v2, v3⟩ := text_ok e1
    rw [List.length_drop] at v2 v3
    exact ⟨good_plain ⟨(by decide : (0 : Int) ≤ 3), (by decide : (3 : Int) < 4)⟩ (fun _ => rfl) (fun _ => rfl) (fun h => absurd rfl h) (by decide : (0 : Int) ≤ 9007199254740991) (by decide : (-9007199254740991 : Int) ≤ 0) (by show t.length ≤ 4096; omega) v1 rfl rfl, by omega⟩
  split at h
  · exact number_ok h
  · cases h

/-- What an element's reading gives. -/
def Gives (elem : List Nat → R J) (n : Nat) : Prop := ∀ l v r, l.length ≤ 4096 → elem l = .ok (v, r) → Good n v ∧ r.length < l.length
theorem items_ok {elem : List Nat → R J} {n : Nat} (hE : Gives elem n) : ∀ (f : Nat) (l : List Nat) (vs : List J) (r : List Nat), l.length ≤ 4096 → items elem f l = .ok (vs, r) → (∀ x ∈ vs, Good n x) ∧ vs.length + r.length ≤ l.length ∧ r.length < l.length
  | 0, _, _, _, _, h => by rw [items] at h; cases h
  | f + 1, l, vs, r, hl, h => by
    rw [items] at h
    split at h
    · cases h
    · rename_i v r1 he
      obtain ⟨g1, g2⟩ := hE _ _ _ hl he
      have hs := skip_len r1
      split at h
      · rename_i r2 e
        injection h with h
        injection h with e1 e2
        subst e1 e2
        rw [e] at hs
        simp at hs
        exact ⟨fun x hx => by simp at hx; rw [hx]; exact g1, by simp; omega, by omega⟩
      · rename_i r2 e
        rw [e] at hs
        simp at hs
        have hs2 := skip_len r2
        obtain ⟨⟨vs', r'⟩, e1, e2⟩ := map_ok h
        injection e2 with e2 e3
        simp only at e2 e3
        subst e2 e3
        obtain ⟨i1, i2, i3⟩ := items_ok hE f _ _ _ (by omega) e1
        refine ⟨fun x hx => ?_, by simp; omega, by omega⟩
        rcases List.mem_cons.1 hx with e | e
        · rw [e]; exact g1
        · exact i1 x e
      · cases h
theorem members_ok {elem : List Nat → R J} {n : Nat} (hE : Gives elem n) : ∀ (f : Nat) (pre : List (List Nat)) (l : List Nat) (ns : List (List Nat)) (vs : List J) (r : List Nat), l.length ≤ 4096 → pre.Nodup → members elem f pre l = .ok ((ns, vs), r) →
    (∀ x ∈ vs, Good n x) ∧ (∀ t ∈ ns, t.length ≤ 4096 ∧ valid t = true) ∧ (pre ++ ns).Nodup ∧ ns.length = vs.length ∧ vs.length + r.length ≤ l.length ∧ r.length < l.length
  | 0, _, _, _, _, _, _, _, h => by rw [members] at h; cases h
  | f + 1, pre, l, ns, vs, r, hl, hp, h => by
    rw [members.eq_def] at h
    simp only at h
    split at h
    · rename_i l1
      rw [List.length_cons] at hl
      split at h
      · cases h
      · rename_i t r1 ht
        obtain ⟨t1, t2, t3⟩ := text_ok ht
        split at h
        · cases h
        · rename_i hn
          have hnd : (pre ++ [t]).Nodup := by
            rw [List.nodup_append]
            refine ⟨hp, by simp, fun a ha b hb => ?_⟩
            simp at hb
            rw [hb]
            exact fun e => hn (e ▸ ha)
          have hs1 := skip_len r1
          split at h
          · rename_i r2 e2
            rw [e2] at hs1
            simp at hs1
            split at h
            · cases h
            · rename_i v r3 hv
              obtain ⟨g1, g2⟩ := hE _ _ _ (by omega) hv
              have hs3 := skip_len r3
              split at h
              · rename_i r4 e4
                injection h with h
                injection h with e1 e5
                injection e1 with e1 e6
                rw [e4] at hs3
                simp at hs3
                subst e1 e5 e6
                refine ⟨fun x hx => by simp at hx; rw [hx]; exact g1, fun x hx => by simp at hx; rw [hx]; exact ⟨by omega, t1⟩, hnd, rfl, by simp; omega, by simp; omega⟩
              · rename_i r4 e4
                rw [e4] at hs3
                simp at hs3
                have hs4 := skip_len r4
                obtain ⟨⟨⟨ns', vs'⟩, r'⟩, e1, e5⟩ := map_ok h
                injection e5 with e5 e6
                injection e5 with e5 e7
                simp only at e5 e6 e7
                subst e5 e6 e7
                obtain ⟨i1, i2, i3, i4, i5, i6⟩ := members_ok hE f _ _ _ _ _ (by omega) hnd e1
                refine ⟨fun x hx => ?_, fun x hx => ?_, by rw [List.append_assoc] at i3; exact i3, by simp; exact i4, by simp; omega, by simp; omega⟩
                · rcases List.mem_cons.1 hx with e | e
                  · rw [e]; exact g1
                  · exact i1 x e
                · rcases List.mem_cons.1 hx with e | e
                  · rw [e]; exact ⟨by omega, t1⟩
                  · exact i2 x e
              · cases h
          · cases h
    · cases h
theorem good_list {n : Nat} {vs : List J} (h : ∀ x ∈ vs, Good n x) (hl : vs.length ≤ 4096) : Good (n + 1) (listJ vs) :=
  ⟨⟨(by decide : (0 : Int) ≤ 4), (by decide : (4 : Int) ≤ 5), fun _ => rfl, fun _ => rfl, fun _ => rfl, (by decide : (0 : Int) ≤ 9007199254740991), (by decide : (-9007199254740991 : Int) ≤ 0), Nat.zero_le _, rfl, fun h => absurd h (by decide : ¬ (4 : Int) < 4), fun _ => ⟨by omega, hl⟩, fun _ => rfl, fun h => absurd h (by decide : ¬ (4 : Int) = 5)⟩, h⟩
theorem good_object {n : Nat} {ns : List (List Nat)} {vs : List J} (h : ∀ x ∈ vs, Good n x) (hl : vs.length ≤ 4096) (hn : ns.length = vs.length) (ht : ∀ t ∈ ns, t.length ≤ 4096 ∧ valid t = true) (hd : ns.Nodup) : Good (n + 1) (objJ ns vs) :=
  ⟨⟨(by decide : (0 : Int) ≤ 5), (by decide : (5 : Int) ≤ 5), fun _ => rfl, fun _ => rfl, fun _ => rfl, (by decide : (0 : Int) ≤ 9007199254740991), (by decide : (-9007199254740991 : Int) ≤ 0), Nat.zero_le _, rfl, fun h => absurd h (by decide : ¬ (5 : Int) < 4), fun _ => ⟨by omega, hl⟩, fun h => absurd h (by decide : ¬ (5 : Int) = 4), fun _ => ⟨hn, ht, hd⟩⟩, h⟩
theorem listOf_ok {elem : List Nat → R J} {n : Nat} (hE : Gives elem n) {l r : List Nat} {v : J} (hl : l.length ≤ 4096) (h : listOf elem l = .ok (v, r)) : Good (n + 1) v ∧ r.length ≤ l.length := by
  have hs := skip_len l
  unfold listOf at h
  split at h
  · rename_i r1 e
    injection h with h
    injection h with e1 e2
    rw [e] at hs
    simp at hs
    subst e1 e2
    exact ⟨good_list (by simp) (Nat.zero_le _), by omega⟩
  · obtain ⟨⟨vs, r'⟩, e1, e2⟩ := map_ok h
    injection e2 with e2 e3
    simp only at e2 e3
    subst e2 e3
    obtain ⟨i1, i2, i3⟩ := items_ok hE _ _ _ _ (by omega) e1
    exact ⟨good_list i1 (by omega), by omega⟩
theorem objectOf_ok {elem : List Nat → R J} {n : Nat} (hE : Gives elem n) {l r : List Nat} {v : J} (hl : l.length ≤ 4096) (h : objectOf elem l = .ok (v, r)) : Good (n + 1) v ∧ r.length ≤ l.length := by
  have hs := skip_len l
  unfold objectOf at h
  split at h
  · rename_i r1 e
    injection h with h
    injection h with e1 e2
    rw [e] at hs
    simp at hs
    subst e1 e2
    exact ⟨good_object (by simp) (Nat.zero_le _) rfl (by simp) (by simp), by omega⟩
  · obtain ⟨⟨⟨ns, vs⟩, r'⟩, e1, e2⟩ := map_ok h
    injection e2 with e2 e3
    simp only at e2 e3
    subst e2 e3
    obtain ⟨i1, i2, i3, i4, i5, i6⟩ := members_ok hE _ _ _ _ _ _ (by omega) (by simp) e1
    exact ⟨good_object i1 (by omega) i4 i2 (by simpa using i3), by omega⟩
theorem value_step_ok {n : Nat} (ih : ∀ m, n = m + 1 → Gives (value m) m) : Gives (value n) n := by
  intro l v r hl h
  have hs := skip_len l
  rw [value] at h
  split at h
  · cases h
  · rename_i c q e
    rw [e] at hs
    simp at hs
    split at h
    · split at h
      · cases h
      · rename_i m
        obtain ⟨g, g2⟩ := listOf_ok (ih m rfl) (by omega) h
        exact ⟨g, by omega⟩
    split at h
    · split at h
      · cases h
      · rename_i m
        obtain ⟨g, g2⟩ := objectOf_ok (ih m rfl) (by omega) h
        exact ⟨g, by omega⟩
    · obtain ⟨g, g2⟩ := scalar_ok (n := n) (by simp; omega) h
      exact ⟨g, by simp at g2; omega⟩
/-- What is read is right. -/
theorem value_good : ∀ n, Gives (value n) n
  | 0 => value_step_ok fun m e => by omega
  | n + 1 => value_step_ok fun m e => by
    have : n = m := by omega
    subst this
    exact value_good n
theorem parse_good {S : List Nat} {v : J} (h : parse S = .ok v) : Good 16 v := by
  unfold parse at h
  split at h
  · cases h
  · rename_i hl
    split at h
    · cases h
    · rename_i x r e
      split at h
      · injection h with h
        subst h
        exact (value_good 16 _ _ _ (by omega) e).1
      · cases h
/-- What was read, if its writing is not too long, is read again as the same. -/
theorem parse_again {S : List Nat} {v : J} (h : parse S = .ok v) (hl : (write 16 v).length ≤ 4096) : parse (write 16 v) = .ok v := parse_write (parse_good h) hl
end Go.Proofs.YtnbaajdcakjlmaaDoor.Jq

/-
  Values as texts, plain: no error has the number 0.
-/
namespace Go.Proofs.YtnbaajdcakjlmaaDoor.Jq

def Err {α : Type} (r : R α) : Prop := ∀ m, r = .error m → 0 < m
theorem err_map {α β : Type} {r : R α} (f : α × List Nat → β × List Nat) (h : Err r) : Err (r.map f) := fun m e => by
  cases r with
  | error n => exact h m (by simpa [Except.map] using e)
  | ok p => simp [Except.map] at e
theorem err_ok {α : Type} (p : α × List Nat) : Err (.ok p : R α) := fun m e => by cases e
theorem err_at {α : Type} {n : Nat} (h : 0 < n) : Err (.error n : R α) := fun m e => by injection e with e; omega
theorem textF_err : ∀ (f : Nat) (l : List Nat), Err (textF f l)
  | 0, _ => err_at (by decide)
  | _ + 1, [] => err_at (by decide)
  | f + 1, c :: r => by
    rw [textF]
    split
    · exact err_at (by decide)
    split
    · exact err_ok _
    split
    · split
      · exact err_at (by decide)
      · exact err_map _ (textF_err f _)
    split
    · exact err_at (by decide)
    · exact err_map _ (textF_err f _)
theorem text_err (l : List Nat) : Err (text l) := textF_err _ l
theorem items_err {elem : List Nat → R J} (he : ∀ l, Err (elem l)) : ∀ (f : Nat) (l : List Nat), Err (items elem f l)
  | 0, _ => err_at (by decide)
  | f + 1, l => by
    rw [items]
    split
    · rename_i e h
      exact err_at (he l e h)
    · split
      · exact err_ok _
      · exact err_map _ (items_err he f _)
      · exact err_at (by decide)
theorem members_err {elem : List Nat → R J} (he : ∀ l, Err (elem l)) : ∀ (f : Nat) (ns : List (List Nat)) (l : List Nat), Err (members elem f ns l)
  | 0, _, _ => err_at (by decide)
  | f + 1, ns, l => by
    rw [members.eq_def]
    simp only
    split
    · split
      · rename_i e h
        exact err_at (text_err _ e h)
      · split
        · exact err_at (by decide)
        · split
          · split
            · rename_i e h
              exact err_at (he _ e h)
            · split
              · exact err_ok _
              · exact err_map _ (members_err he f _ _)
              · exact err_at (by decide)
          · exact err_at (by decide)
    · exact err_at (by decide)
theorem numberOf_err (m : Bool) (r : List Nat) : Err (numberOf m r) := by
  unfold numberOf
  split
  · exact err_at (by decide)
  · exact err_ok _
theorem word_err (w : List Nat) (v : J) (l : List Nat) : Err (word w v l) := by
  unfold word
  split
  · exact err_ok _
  · exact err_at (by decide)
theorem scalar_err (c : Nat) (l : List Nat) : Err (scalar c l) := by
  unfold scalar
  split
  · exact word_err _ _ _
  split
  · exact word_err _ _ _
  split
  · exact word_err _ _ _
  split
  · exact err_map _ (text_err _)
  split
  · unfold number
    split
    · exact numberOf_err _ _
    · exact numberOf_err _ _
  · exact err_at (by decide)
theorem listOf_err {elem : List Nat → R J} (he : ∀ l, Err (elem l)) (l : List Nat) : Err (listOf elem l) := by
  unfold listOf
  split
  · exact err_ok _
  · exact err_map _ (items_err he _ _)
theorem objectOf_err {elem : List Nat → R J} (he : ∀ l, Err (elem l)) (l : List Nat) : Err (objectOf elem l) := by
  unfold objectOf
  split
  · exact err_ok _
  · exact err_map _ (members_err he _ _ _)
theorem value_err : ∀ (n : Nat) (l : List Nat), Err (value n l) := by
  intro n
  induction n with
  | zero =>
    intro l
    rw [value.eq_def]
    simp only
    split
    · exact err_at (by decide)
    split
    · exact err_at (by decide)
    split
    · exact err_at (by decide)
    · exact scalar_err _ _
  | succ n ih =>
    intro l
    rw [value.eq_def]
    simp only
    split
    · exact err_at (by decide)
    split
    · exact listOf_err ih _
    split
    · exact objectOf_err ih _
    · exact scalar_err _ _
theorem parse_err {S : List Nat} {m : Nat} (h : parse S = .error m) : 0 < m := by
  unfold parse at h
  split at h
  · injection h with h; omega
  · split at h
    · rename_i e he
      injection h with h
      rw [← h]
      exact value_err 16 S e he
    · split at h
      · cases h
      · injection h with h; omega
end Go.Proofs.YtnbaajdcakjlmaaDoor.Jq

/-
  Values as texts, plain: the writing as the program does it, bit by bit behind what was written, against what is right and its writing.
-/
namespace Go.Proofs.YtnbaajdcakjlmaaDoor.Jq

/-- More behind what was written, if it is not too long then. -/
def addP (A s : List Nat) : Option (List Nat) := if A.length + s.length ≤ 4096 then some (A ++ s) else none
def quotedP (A t : List Nat) : Option (List Nat) := if t.length ≤ 4096 ∧ valid t = true then addP A (quoted t) else none
def commaP (A : List Nat) (i : Nat) : Option (List Nat) := if i = 0 then some A else addP A [44]
def listP (el : List Nat → J → Option (List Nat)) : Nat → List Nat → List J → Option (List Nat)
  | _, A, [] => some A
  | i, A, v :: r => (commaP A i).bind fun A1 => (el A1 v).bind fun A2 => listP el (i + 1) A2 r
def membersP (el : List Nat → J → Option (List Nat)) : List (List Nat) → List Nat → List (List Nat) → List J → Option (List Nat)
  | _, A, [], _ => some A
  | _, _, _ :: _, [] => none
  | pre, A, t :: ns, v :: vs =>
    if t ∈ pre then none
    else (commaP A pre.length).bind fun A1 => (quotedP A1 t).bind fun A2 => (addP A2 [58]).bind fun A3 => (el A3 v).bind fun A4 => membersP el (pre ++ [t]) A4 ns vs
/-- Are the fields as they must be that a kind does not use? -/
def Only (v : J) : Prop := (v.kind = 1 ∨ v.bool = false) ∧ (v.kind = 2 ∨ v.int = 0) ∧ (v.kind = 3 ∨ v.text = []) ∧ (v.kind = 5 ∨ v.names = []) ∧ (v.kind = 4 ∨ v.kind = 5 ∨ v.list = [])
instance (v : J) : Decidable (v.names = []) := decidable_of_iff (v.names.isEmpty = true) List.isEmpty_iff
instance (v : J) : Decidable (v.list = []) := decidable_of_iff (v.list.isEmpty = true) List.isEmpty_iff
instance (v : J) : Decidable (Only v) := inferInstanceAs (Decidable (_ ∧ _))
def scalarP (A : List Nat) (v : J) : Option (List Nat) :=
  if v.kind = 0 then addP A wNull
  else if v.kind = 1 then addP A (if v.bool then wTrue else wFalse)
  else if v.kind = 2 then (if -9007199254740991 ≤ v.int ∧ v.int ≤ 9007199254740991 then addP A (decimal v.int) else none)
  else if v.kind = 3 then quotedP A v.text
  else none
def valueP : Nat → List Nat → J → Option (List Nat)
  | n, A, v =>
    if ¬ Only v then none
    else if v.kind = 4 then (match n with | 0 => none | n + 1 => (addP A [91]).bind fun A1 => (listP (valueP n) 0 A1 v.list).bind fun A2 => addP A2 [93])
    else if v.kind = 5 then (match n with | 0 => none | n + 1 => (addP A [123]).bind fun A1 => (if v.names.length = v.list.length then membersP (valueP n) [] A1 v.names v.list else none).bind fun A2 => addP A2 [125])
    else scalarP A v

theorem addP_some {A s B : List Nat} (h : addP A s = some B) : B = A ++ s ∧ B.length ≤ 4096 := by
  unfold addP at h
  split at h
  · injection h with h
    subst h
    exact ⟨rfl, by rw [List.length_append]; assumption⟩
  · cases h
theorem addP_yes {A s : List Nat} (h : A.length + s.length ≤ 4096) : addP A s = some (A ++ s) := if_pos h
theorem addP_no {A s : List Nat} (h : ¬ A.length + s.length ≤ 4096) : addP A s = none := if_neg h

/-- What is written of items, with commas between them. -/
def jn : Nat → List (List Nat) → List Nat
  | _, [] => []
  | i, x :: r => (if i = 0 then [] else [44]) ++ (x ++ jn (i + 1) r)
theorem jn_more : ∀ (l : List (List Nat)) (i : Nat), 0 < i → jn i l = l.flatMap fun x => 44 :: x
  | [], _, _ => rfl
  | x :: r, i, h => by
    rw [jn, if_neg (by omega), jn_more r (i + 1) (by omega)]
    simp
theorem jn_joined : ∀ (l : List (List Nat)), jn 0 l = joined l
  | [] => rfl
  | [x] => by rw [joined_one, jn, jn]; simp
  | x :: y :: l => by
    rw [joined_more, ← jn_joined (y :: l), jn, if_pos rfl, jn_more _ _ (by omega), List.nil_append, jn, if_pos rfl, List.nil_append, jn_more _ _ (by omega)]
    simp
theorem jn_len {l : List (List Nat)} (h : ∀ x ∈ l, x ≠ []) : l.length ≤ (jn 0 l).length := by rw [jn_joined]; exact joined_len l h

/-- What an item's writing is, if it can be. -/
def Writes (el : List Nat → J → Option (List Nat)) (G : J → Prop) (w : J → List Nat) (x : J) : Prop :=
  (∀ A B, A.length ≤ 4096 → el A x = some B → G x ∧ B = A ++ w x ∧ B.length ≤ 4096) ∧ (∀ A, G x → A.length + (w x).length ≤ 4096 → el A x = some (A ++ w x))
theorem commaP_some {A B : List Nat} {i : Nat} (hA : A.length ≤ 4096) (h : commaP A i = some B) : B = A ++ (if i = 0 then [] else [44]) ∧ B.length ≤ 4096 := by
  unfold commaP at h
  split at h
  · rename_i h0
    injection h with h
    subst h
    exact ⟨by rw [if_pos h0, List.append_nil], hA⟩
  · rename_i h0
    obtain ⟨h1, h2⟩ := addP_some h
    exact ⟨by rw [if_neg h0]; exact h1, h2⟩
theorem commaP_yes {A : List Nat} {i : Nat} (h : (A ++ (if i = 0 then [] else [44])).length ≤ 4096) : commaP A i = some (A ++ (if i = 0 then [] else [44])) := by
  unfold commaP
  by_cases h0 : i = 0
  · rw [if_pos h0, if_pos h0, List.append_nil]
  · rw [if_neg h0, List.length_append] at h
    rw [if_neg h0, if_neg h0]
    exact addP_yes h
theorem listP_some {el : List Nat → J → Option (List Nat)} {G : J → Prop} {w : J → List Nat} : ∀ (l : List J) (i : Nat) (A B : List Nat), (∀ x ∈ l, Writes el G w x) → A.length ≤ 4096 → listP el i A l = some B → (∀ x ∈ l, G x) ∧ B = A ++ jn i (l.map w) ∧ B.length ≤ 4096
  | [], i, A, B, _, hA, h => by
    rw [listP] at h
    injection h with h
    subst h
    exact ⟨fun x hx => (nomatch hx), by simp [jn], hA⟩
  | v :: r, i, A, B, hw, hA, h => by
    rw [listP, Option.bind_eq_some_iff] at h
    obtain ⟨A1, h1, h⟩ := h
    rw [Option.bind_eq_some_iff] at h
    obtain ⟨A2, h2, h3⟩ := h
    obtain ⟨e1, l1⟩ := commaP_some hA h1
    obtain ⟨g2, e2, l2⟩ := (hw v (by simp)).1 A1 A2 l1 h2
    obtain ⟨g3, e3, l3⟩ := listP_some r (i + 1) A2 B (fun x hx => hw x (by simp [hx])) l2 h3
    refine ⟨fun x hx => ?_, ?_, l3⟩
    · rcases List.mem_cons.1 hx with rfl | hx
      · exact g2
      · exact g3 x hx
    · rw [e3, e2, e1, List.map_cons, jn]
      simp [List.append_assoc]
theorem listP_yes {el : List Nat → J → Option (List Nat)} {G : J → Prop} {w : J → List Nat} : ∀ (l : List J) (i : Nat) (A : List Nat), (∀ x ∈ l, Writes el G w x) → (∀ x ∈ l, G x) → (A ++ jn i (l.map w)).length ≤ 4096 → listP el i A l = some (A ++ jn i (l.map w))
  | [], i, A, _, _, _ => by rw [listP]; simp [jn]
  | v :: r, i, A, hw, hg, hl => by
    rw [List.map_cons, jn, ← List.append_assoc, ← List.append_assoc] at hl ⊢
    have hl1 : ((A ++ (if i = 0 then [] else [44])) ++ w v).length ≤ 4096 := by rw [List.length_append] at hl; omega
    have hl0 : (A ++ (if i = 0 then [] else [44])).length ≤ 4096 := by rw [List.length_append] at hl1; omega
    rw [listP, commaP_yes hl0]
    show (el _ v).bind _ = _
    rw [(hw v (by simp)).2 _ (hg v (by simp)) (by rw [List.length_append] at hl1; exact hl1)]
    exact listP_yes r (i + 1) _ (fun x hx => hw x (by simp [hx])) (fun x hx => hg x (by simp [hx])) hl
def mem1 (w : J → List Nat) (t : List Nat) (x : J) : List Nat := quoted t ++ 58 :: w x
theorem quotedP_some {A B t : List Nat} (h : quotedP A t = some B) : t.length ≤ 4096 ∧ valid t = true ∧ B = A ++ quoted t ∧ B.length ≤ 4096 := by
  unfold quotedP at h
  split at h
  · rename_i g
    obtain ⟨h1, h2⟩ := addP_some h
    exact ⟨g.1, g.2, h1, h2⟩
  · cases h
theorem q1_all (t : List Nat) : t.length ≤ (t.flatMap q1).length := by
  induction t with
  | nil => exact Nat.zero_le _
  | cons c r ih =>
    have := q1_pos c
    rw [List.flatMap_cons, List.length_append, List.length_cons]
    omega
theorem quoted_len (t : List Nat) : t.length + 2 ≤ (quoted t).length := by
  have := q1_all t
  unfold quoted
  rw [List.length_cons, List.length_append]
  simp only [List.length_cons, List.length_nil]
  omega
theorem quotedP_yes {A t : List Nat} (hv : valid t = true) (h : A.length + (quoted t).length ≤ 4096) : quotedP A t = some (A ++ quoted t) := by
  have := quoted_len t
  unfold quotedP
  rw [if_pos ⟨by omega, hv⟩, addP_yes h]
theorem membersP_some {el : List Nat → J → Option (List Nat)} {G : J → Prop} {w : J → List Nat} : ∀ (ns : List (List Nat)) (vs : List J) (pre : List (List Nat)) (A B : List Nat), ns.length = vs.length → (∀ x ∈ vs, Writes el G w x) → A.length ≤ 4096 → pre.Nodup → membersP el pre A ns vs = some B →
    (∀ x ∈ vs, G x) ∧ (∀ t ∈ ns, t.length ≤ 4096 ∧ valid t = true) ∧ (pre ++ ns).Nodup ∧ B = A ++ jn pre.length (List.zipWith (mem1 w) ns vs) ∧ B.length ≤ 4096
  | [], [], pre, A, B, _, _, hA, hp, h => by
    rw [membersP] at h
    injection h with h
    subst h
    exact ⟨fun x hx => (nomatch hx), fun x hx => (nomatch hx), by simpa using hp, by simp [jn], hA⟩
  | [], _ :: _, _, _, _, hn, _, _, _, _ => by simp at hn
  | _ :: _, [], _, _, _, hn, _, _, _, _ => by simp at hn
  | t :: ns, v :: vs, pre, A, B, hn, hw, hA, hp, h => by
    rw [membersP] at h
    split at h
    · cases h
    rename_i ht
    rw [Option.bind_eq_some_iff] at h
    obtain ⟨A1, h1, h⟩ := h
    rw [Option.bind_eq_some_iff] at h
    obtain ⟨A2, h2, h⟩ := h
    rw [Option.bind_eq_some_iff] at h
    obtain ⟨A3, h3, h⟩ := h
    rw [Option.bind_eq_some_iff] at h
    obtain ⟨A4, h4, h5⟩ := h
    obtain ⟨e1, l1⟩ := commaP_some hA h1
    obtain ⟨q1, q2, e2, l2⟩ := quotedP_some h2
    obtain ⟨e3, l3⟩ := addP_some h3
    obtain ⟨g4, e4, l4⟩ := (hw v (by simp)).1 A3 A4 l3 h4
    have hnd : (pre ++ [t]).Nodup := by
      rw [List.nodup_append]
      refine ⟨hp, by simp, fun a ha b hb => ?_⟩
      simp at hb
      rw [hb]
      exact fun e => ht (e ▸ ha)
    obtain ⟨g5, g6, g7, e5, l5⟩ := membersP_some ns vs (pre ++ [t]) A4 B (by simpa using hn) (fun x hx => hw x (by simp [hx])) l4 hnd h5
    refine ⟨fun x hx => ?_, fun x hx => ?_, by rw [List.append_assoc] at g7; exact g7, ?_, l5⟩
    · rcases List.mem_cons.1 hx with rfl | hx
      · exact g4
      · exact g5 x hx
    · rcases List.mem_cons.1 hx with rfl | hx
      · exact ⟨q1, q2⟩
      · exact g6 x hx
    · rw [e5, e4, e3, e2, e1, List.zipWith_cons_cons, jn, mem1, List.length_append]
      simp [List.append_assoc]
theorem membersP_yes {el : List Nat → J → Option (List Nat)} {G : J → Prop} {w : J → List Nat} : ∀ (ns : List (List Nat)) (vs : List J) (pre : List (List Nat)) (A : List Nat), ns.length = vs.length → (∀ x ∈ vs, Writes el G w x) → (∀ x ∈ vs, G x) → (∀ t ∈ ns, valid t = true) → (pre ++ ns).Nodup → (A ++ jn pre.length (List.zipWith (mem1 w) ns vs)).length ≤ 4096 →
    membersP el pre A ns vs = some (A ++ jn pre.length (List.zipWith (mem1 w) ns vs))
  | [], [], pre, A, _, _, _, _, _, _ => by rw [membersP]; simp [jn]
  | [], _ :: _, _, _, hn, _, _, _, _, _ => by simp at hn
  | _ :: _, [], _, _, hn, _, _, _, _, _ => by simp at hn
  | t :: ns, v :: vs, pre, A, hn, hw, hg, ht, hp, hl => by
    have hnp : t ∉ pre := fun h => by
      rw [List.nodup_append] at hp
      exact hp.2.2 t h t (by simp) rfl
    have e0 : A ++ jn pre.length (List.zipWith (mem1 w) (t :: ns) (v :: vs)) = ((((A ++ (if pre.length = 0 then [] else [44])) ++ quoted t) ++ [58]) ++ w v) ++ jn (pre ++ [t]).length (List.zipWith (mem1 w) ns vs) := by
      rw [List.zipWith_cons_cons, jn, mem1, List.length_append]
      simp [List.append_assoc]
    rw [e0] at hl ⊢
    have l4 : ((((A ++ (if pre.length = 0 then [] else [44])) ++ quoted t) ++ [58]) ++ w v).length ≤ 4096 := by rw [List.length_append] at hl; omega
    have l3 : (((A ++ (if pre.length = 0 then [] else [44])) ++ quoted t) ++ [58]).length ≤ 4096 := by rw [List.length_append] at l4; omega
    have l2 : ((A ++ (if pre.length = 0 then [] else [44])) ++ quoted t).length ≤ 4096 := by rw [List.length_append] at l3; omega
    have l1 : (A ++ (if pre.length = 0 then [] else [44])).length ≤ 4096 := by rw [List.length_append] at l2; omega
    rw [membersP, if_neg hnp, commaP_yes l1]
    show (quotedP _ t).bind _ = _
    rw [quotedP_yes (ht t (by simp)) (by rw [List.length_append] at l2; exact l2)]
    show (addP _ [58]).bind _ = _
    rw [addP_yes (by rw [List.length_append] at l3; exact l3)]
    show (el _ v).bind _ = _
    rw [(hw v (by simp)).2 _ (hg v (by simp)) (by rw [List.length_append] at l4; exact l4)]
    exact membersP_yes ns vs (pre ++ [t]) _ (by simpa using hn) (fun x hx => hw x (by simp [hx])) (fun x hx => hg x (by simp [hx])) (fun x hx => ht x (by simp [hx])) (by rw [List.append_assoc]; exact hp) hl

theorem only_of_form {n : Nat} {v : J} (h : Form n v) : Only v := by
  obtain ⟨h0, h5, b, i, t, _, _, _, _, pl, _, l4, l5⟩ := h
  refine ⟨?_, ?_, ?_, ?_, ?_⟩
  · by_cases e : v.kind = 1
    · exact .inl e
    · exact .inr (b e)
  · by_cases e : v.kind = 2
    · exact .inl e
    · exact .inr (i e)
  · by_cases e : v.kind = 3
    · exact .inl e
    · exact .inr (t e)
  · by_cases e : v.kind = 5
    · exact .inl e
    · refine .inr ?_
      by_cases e4 : v.kind = 4
      · exact l4 e4
      · exact (pl (by omega)).1
  · by_cases e4 : v.kind = 4
    · exact .inl e4
    by_cases e : v.kind = 5
    · exact .inr (.inl e)
    · exact .inr (.inr (pl (by omega)).2)
theorem write_ne {n : Nat} {v : J} (h : Good n v) : write n v ≠ [] := by
  obtain ⟨c, q, e, _⟩ := write_start h
  rw [e]; simp
theorem value_writes (n : Nat) (ih : ∀ m, n = m + 1 → ∀ x, Writes (valueP m) (Good m) (write m) x) (v : J) : Writes (valueP n) (Good n) (write n) v := by
  constructor
  · intro A B hA h
    rw [valueP.eq_def] at h
    simp only at h
    split at h
    · cases h
    rename_i ho
    have ho : Only v := by simpa using ho
    obtain ⟨o1, o2, o3, o4, o5⟩ := ho
    split at h
    · rename_i h4
      split at h
      · cases h
      rename_i m
      have ih := ih m rfl
      rw [Option.bind_eq_some_iff] at h
      obtain ⟨A1, h1, h⟩ := h
      rw [Option.bind_eq_some_iff] at h
      obtain ⟨A2, h2, h3⟩ := h
      obtain ⟨e1, l1⟩ := addP_some h1
      obtain ⟨g2, e2, l2⟩ := listP_some v.list 0 A1 A2 (fun x _ => ih x) l1 h2
      obtain ⟨e3, l3⟩ := addP_some h3
      have hlen : v.list.length ≤ 4096 := by
        have := jn_len (l := v.list.map (write m)) (fun y hy => by
          obtain ⟨x, hx, rfl⟩ := List.mem_map.1 hy
          exact write_ne (g2 x hx))
        rw [e2, List.length_append] at l2
        rw [List.length_map] at this
        omega
      refine ⟨⟨⟨by omega, by omega, fun _ => by simpa [h4] using o1, fun _ => by simpa [h4] using o2, fun _ => by simpa [h4] using o3, ?_, ?_, ?_, ?_, fun h => by omega, fun _ => ⟨by omega, hlen⟩, fun _ => by simpa [h4] using o4, fun h => by omega⟩, g2⟩, ?_, l3⟩
      · have : v.int = 0 := by simpa [h4] using o2
        omega
      · have : v.int = 0 := by simpa [h4] using o2
        omega
      · have : v.text = [] := by simpa [h4] using o3
        rw [this]; exact Nat.zero_le _
      · have : v.text = [] := by simpa [h4] using o3
        rw [this]; rfl
      · rw [e3, e2, e1, jn_joined, write.eq_def]
        simp only [h4]
        simp [List.append_assoc]
    split at h
    · rename_i h4 h5
      split at h
      · cases h
      rename_i m
      have ih := ih m rfl
      rw [Option.bind_eq_some_iff] at h
      obtain ⟨A1, h1, h⟩ := h
      rw [Option.bind_eq_some_iff] at h
      obtain ⟨A2, h2, h3⟩ := h
      split at h2
      · rename_i hl
        obtain ⟨e1, l1⟩ := addP_some h1
        obtain ⟨g2, g3, g4, e2, l2⟩ := membersP_some v.names v.list [] A1 A2 hl (fun x _ => ih x) l1 List.nodup_nil h2
        obtain ⟨e3, l3⟩ := addP_some h3
        have hlen : v.list.length ≤ 4096 := by
          have := jn_len (l := List.zipWith (mem1 (write m)) v.names v.list) (fun y hy => by
            obtain ⟨t, x, _, _, rfl⟩ : ∃ t x, t ∈ v.names ∧ x ∈ v.list ∧ y = mem1 (write m) t x := by
              rw [List.zipWith_eq_zipWith_take_min] at hy
              rw [List.mem_iff_getElem?] at hy
              obtain ⟨i, hi⟩ := hy
              rw [List.getElem?_zipWith] at hi
              cases h1 : (v.names.take (min v.names.length v.list.length))[i]? with
              | none => rw [h1] at hi; cases hi
              | some t =>
                cases h2 : (v.list.take (min v.names.length v.list.length))[i]? with
                | none => rw [h1, h2] at hi; cases hi
                | some x =>
                  rw [h1, h2] at hi
                  exact ⟨t, x, List.mem_of_mem_take (List.mem_of_getElem? h1), List.mem_of_mem_take (List.mem_of_getElem? h2), (Option.some.inj hi).symm⟩
            unfold mem1 quoted
            simp)
          rw [e2, List.length_append] at l2
          rw [List.length_zipWith, hl, Nat.min_self] at this
          simp only [List.length_nil] at l2
          omega
        refine ⟨⟨⟨by omega, by omega, fun _ => by simpa [h5] using o1, fun _ => by simpa [h5] using o2, fun _ => by simpa [h5] using o3, ?_, ?_, ?_, ?_, fun h => by omega, fun _ => ⟨by omega, hlen⟩, fun h => absurd h h4, fun _ => ⟨hl, g3, by simpa using g4⟩⟩, g2⟩, ?_, l3⟩
        · have : v.int = 0 := by simpa [h5] using o2
          omega
        · have : v.int = 0 := by simpa [h5] using o2
          omega
        · have : v.text = [] := by simpa [h5] using o3
          rw [this]; exact Nat.zero_le _
        · have : v.text = [] := by simpa [h5] using o3
          rw [this]; rfl
        · rw [e3, e2, e1, List.length_nil, jn_joined, write.eq_def]
          simp only [h5]
          simp [List.append_assoc]
          rfl
      · cases h2
    · rename_i h4 h5
      have hn : v.names = [] := by simpa [h5] using o4
      have hl : v.list = [] := by simpa [h4, h5] using o5
      unfold scalarP at h
      have fin : ∀ (hk : 0 ≤ v.kind ∧ v.kind < 4) (i1 : v.int ≤ 9007199254740991) (i2 : -9007199254740991 ≤ v.int) (t1 : v.text.length ≤ 4096) (t2 : valid v.text = true), Good n v := fun hk i1 i2 t1 t2 =>
        good_plain hk (fun h => by rcases o1 with e | e; exact absurd e h; exact e) (fun h => by rcases o2 with e | e; exact absurd e h; exact e) (fun h => by rcases o3 with e | e; exact absurd e h; exact e) i1 i2 t1 t2 hn hl
      have z2 : v.kind ≠ 2 → v.int = 0 := fun h => by rcases o2 with e | e; exact absurd e h; exact e
      have z3 : v.kind ≠ 3 → v.text = [] := fun h => by rcases o3 with e | e; exact absurd e h; exact e
      split at h
      · rename_i h0
        obtain ⟨e1, l1⟩ := addP_some h
        refine ⟨fin ⟨by omega, by omega⟩ ?_ ?_ ?_ ?_, ?_, l1⟩
        · rw [z2 (by omega)]; decide
        · rw [z2 (by omega)]; decide
        · rw [z3 (by omega)]; exact Nat.zero_le _
        · rw [z3 (by omega)]; rfl
        · rw [e1, write.eq_def]; simp only [h0]; rfl
      split at h
      · rename_i h0 h1
        obtain ⟨e1, l1⟩ := addP_some h
        refine ⟨fin ⟨by omega, by omega⟩ ?_ ?_ ?_ ?_, ?_, l1⟩
        · rw [z2 (by omega)]; decide
        · rw [z2 (by omega)]; decide
        · rw [z3 (by omega)]; exact Nat.zero_le _
        · rw [z3 (by omega)]; rfl
        · rw [e1, write.eq_def]; simp only [h1]; rfl
      split at h
      · rename_i h0 h1 h2
        split at h
        · rename_i hb
          obtain ⟨e1, l1⟩ := addP_some h
          refine ⟨fin ⟨by omega, by omega⟩ hb.2 hb.1 ?_ ?_, ?_, l1⟩
          · rw [z3 (by omega)]; exact Nat.zero_le _
          · rw [z3 (by omega)]; rfl
          · rw [e1, write.eq_def]; simp only [h2]; rfl
        · cases h
      split at h
      · rename_i h0 h1 h2 h3
        obtain ⟨q1, q2, e1, l1⟩ := quotedP_some h
        refine ⟨fin ⟨by omega, by omega⟩ ?_ ?_ q1 q2, ?_, l1⟩
        · rw [z2 (by omega)]; decide
        · rw [z2 (by omega)]; decide
        · rw [e1, write.eq_def]; simp only [h3]; rfl
      · cases h
  · intro A hg hl
    have hf := good_form hg
    have ho := only_of_form hf
    obtain ⟨f0, f5, _, _, _, i1, i2, t1, t2, _, f10, _, f12⟩ := hf
    rw [valueP.eq_def]
    simp only
    rw [if_neg (fun h => h ho)]
    by_cases h4 : v.kind = 4
    · rw [if_pos h4]
      obtain ⟨hn, _⟩ := f10 (by omega)
      obtain ⟨m, rfl⟩ : ∃ m, n = m + 1 := ⟨n - 1, by omega⟩
      have ih := ih m rfl
      have hg2 : ∀ x ∈ v.list, Good m x := hg.2
      have ew : write (m + 1) v = 91 :: (joined (v.list.map (write m)) ++ [93]) := by rw [write.eq_def]; simp only [h4]; rfl
      rw [ew] at hl ⊢
      simp only [List.length_cons, List.length_append, List.length_nil] at hl
      simp only
      rw [addP_yes (by simp only [List.length_cons, List.length_nil]; omega)]
      show (listP (valueP m) 0 _ v.list).bind _ = _
      rw [listP_yes (G := Good m) (w := write m) v.list 0 _ (fun x _ => ih x) hg2 (by rw [jn_joined]; simp only [List.length_append, List.length_cons, List.length_nil]; omega)]
      show addP _ [93] = _
      rw [addP_yes (by rw [jn_joined]; simp only [List.length_append, List.length_cons, List.length_nil]; omega), jn_joined]
      simp [List.append_assoc]
    rw [if_neg h4]
    by_cases h5 : v.kind = 5
    · rw [if_pos h5]
      obtain ⟨hn, _⟩ := f10 (by omega)
      obtain ⟨m, rfl⟩ : ∃ m, n = m + 1 := ⟨n - 1, by omega⟩
      have ih := ih m rfl
      have hg2 : ∀ x ∈ v.list, Good m x := hg.2
      obtain ⟨n1, n2, n3⟩ := f12 h5
      have ew : write (m + 1) v = 123 :: (joined (List.zipWith (mem1 (write m)) v.names v.list) ++ [125]) := by rw [write.eq_def]; simp only [h5]; rfl
      rw [ew] at hl ⊢
      simp only [List.length_cons, List.length_append, List.length_nil] at hl
      simp only
      rw [addP_yes (by simp only [List.length_cons, List.length_nil]; omega)]
      show ((if v.names.length = v.list.length then membersP (valueP m) [] _ v.names v.list else none).bind _) = _
      rw [if_pos n1]
      rw [membersP_yes (G := Good m) (w := write m) v.names v.list [] _ n1 (fun x _ => ih x) hg2 (fun t ht => (n2 t ht).2) (by simpa using n3) (by rw [List.length_nil, jn_joined]; simp only [List.length_append, List.length_cons, List.length_nil]; omega)]
      show addP _ [125] = _
      rw [addP_yes (by rw [List.length_nil, jn_joined]; simp only [List.length_append, List.length_cons, List.length_nil]; omega), List.length_nil, jn_joined]
      simp [List.append_assoc]
    rw [if_neg h5]
    unfold scalarP
    have hk : v.kind = 0 ∨ v.kind = 1 ∨ v.kind = 2 ∨ v.kind = 3 := by omega
    rw [write.eq_def] at hl ⊢
    simp only at hl ⊢
    rcases hk with h | h | h | h
    · simp only [h] at hl ⊢
      exact addP_yes hl
    · simp only [h] at hl ⊢
      exact addP_yes hl
    · simp only [h] at hl ⊢
      simp only [show ((2 : Int) = 0) = False from by simp, show ((2 : Int) = 1) = False from by simp, if_false, if_true, if_pos (And.intro i2 i1)] at hl ⊢
      exact addP_yes hl
    · simp only [h] at hl ⊢
      exact quotedP_yes t2 hl
theorem valueP_all : ∀ (n : Nat) (x : J), Writes (valueP n) (Good n) (write n) x
  | 0 => fun x => value_writes 0 (fun m h => by omega) x
  | n + 1 => fun x => value_writes (n + 1) (fun m h => by
    have : n = m := by omega
    subst this
    exact valueP_all n) x
/-- What is right, and not too long, is written .. -/
theorem valueP_yes {v : J} (h : Good 16 v) (hl : (write 16 v).length ≤ 4096) : valueP 16 [] v = some (write 16 v) := (valueP_all 16 v).2 [] h (by simpa using hl)
/-- .. and nothing else. -/
theorem valueP_some {v : J} {B : List Nat} (h : valueP 16 [] v = some B) : Good 16 v ∧ B = write 16 v ∧ B.length ≤ 4096 := (valueP_all 16 v).1 [] B (Nat.zero_le _) h
end Go.Proofs.YtnbaajdcakjlmaaDoor.Jq
