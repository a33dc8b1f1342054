/-
  QU: JU JP, side by side.
-/
import Derived.Test.YtnbaajdcakjlmaaDoorQA
import Derived.Lib.DecodeN

/-
  Values as texts, plain: the library's decoder of runes against what the document says of the runes with which a text begins.
-/
namespace Go.Proofs.YtnbaajdcakjlmaaDoor.Jq

theorem isRune_short {k : Nat} {l : List Nat} (h : l.length < k) : isRune k l = false := by
  unfold isRune
  rw [decide_eq_false (by omega)]
  rfl
theorem isRune1 {a : Nat} {r : List Nat} (ha : a < 256) : isRune 1 (a :: r) = decide (a < 128) := by
  rw [Bool.eq_iff_iff]
  unfold isRune okRune runeOf runeBytes
  simp only [Bool.and_eq_true, Bool.or_eq_true, decide_eq_true_eq, beq_iff_eq, List.length_cons, List.take_succ_cons, List.take_zero]
  by_cases h : a < 128
  · simp [h]; omega
  · simp only [if_neg h]
    split
    · simp; omega
    · split <;> simp <;> omega
theorem isRune2 {a b : Nat} {r : List Nat} (hb : b < 256) : isRune 2 (a :: b :: r) = decide (a / 32 = 6 ∧ b / 64 = 2 ∧ 128 ≤ a % 32 * 64 + b % 64) := by
  rw [Bool.eq_iff_iff]
  unfold isRune okRune runeOf runeBytes
  simp only [Bool.and_eq_true, Bool.or_eq_true, decide_eq_true_eq, beq_iff_eq, List.length_cons, List.take_succ_cons, List.take_zero]
  obtain ⟨R, eR⟩ : ∃ R, a % 32 * 64 + b % 64 = R := ⟨_, rfl⟩
  rw [eR]
  split
  · simp; omega
  · split
    · simp; omega
    · split <;> simp <;> omega
theorem isRune3 {a b c : Nat} {r : List Nat} (hb : b < 256) (hc : c < 256) :
    isRune 3 (a :: b :: c :: r) = decide (a / 16 = 14 ∧ b / 64 = 2 ∧ c / 64 = 2 ∧ 2048 ≤ a % 16 * 4096 + b % 64 * 64 + c % 64 ∧ (a % 16 * 4096 + b % 64 * 64 + c % 64 < 55296 ∨ 57343 < a % 16 * 4096 + b % 64 * 64 + c % 64)) := by
  rw [Bool.eq_iff_iff]
  unfold isRune okRune runeOf runeBytes
  simp only [Bool.and_eq_true, Bool.or_eq_true, decide_eq_true_eq, beq_iff_eq, List.length_cons, List.take_succ_cons, List.take_zero]
  rw [show (a % 16 * 64 + b % 64) * 64 + c % 64 = a % 16 * 4096 + b % 64 * 64 + c % 64 from by omega]
  obtain ⟨R, eR⟩ : ∃ R, a % 16 * 4096 + b % 64 * 64 + c % 64 = R := ⟨_, rfl⟩
  rw [eR]
  split
  · simp; omega
  · split
    · simp; omega
    · split <;> simp <;> omega
theorem isRune4 {a b c d : Nat} {r : List Nat} (hb : b < 256) (hc : c < 256) :
    isRune 4 (a :: b :: c :: d :: r) = decide (a / 8 = 30 ∧ b / 64 = 2 ∧ c / 64 = 2 ∧ d / 64 = 2 ∧ 65536 ≤ a % 8 * 262144 + b % 64 * 4096 + c % 64 * 64 + d % 64 ∧ a % 8 * 262144 + b % 64 * 4096 + c % 64 * 64 + d % 64 ≤ 1114111) := by
  rw [Bool.eq_iff_iff]
  unfold isRune okRune runeOf runeBytes
  simp only [Bool.and_eq_true, Bool.or_eq_true, decide_eq_true_eq, beq_iff_eq, List.length_cons, List.take_succ_cons, List.take_zero]
  rw [show ((a % 8 * 64 + b % 64) * 64 + c % 64) * 64 + d % 64 = a % 8 * 262144 + b % 64 * 4096 + c % 64 * 64 + d % 64 from by omega]
  obtain ⟨R, eR⟩ : ∃ R, a % 8 * 262144 + b % 64 * 4096 + c % 64 * 64 + d % 64 = R := ⟨_, rfl⟩
  rw [eR]
  split
  · simp; omega
  · split
    · simp; omega
    · split <;> simp <;> omega

/-- What the library's decoder tells of a text that is not empty. -/
def DecAs (l : List Nat) (p : Nat × Nat) : Prop :=
  (p = (65533, 1) ∧ long l = 0) ∨ (¬ (p.1 = 65533 ∧ p.2 ≤ 1) ∧ long l = p.2 ∧ 1 ≤ p.2 ∧ p.2 ≤ 4 ∧ p.2 ≤ l.length ∧ runeBytes p.1 = l.take p.2 ∧ p.1 ≤ 1114111 ∧ (p.1 < 55296 ∨ 57343 < p.1) ∧ (p.1 < 128 ↔ p.2 = 1))
theorem decAs_yes {l : List Nat} {k : Nat} (hk1 : 1 ≤ k) (hk4 : k ≤ 4) (hl : long l = k) (h : isRune k l = true) (c : Nat) (hc : runeOf k l = c) (hw : ¬ (c = 65533 ∧ k ≤ 1)) (h128 : c < 128 ↔ k = 1) : DecAs l (c, k) := by
  unfold isRune at h
  simp only [Bool.and_eq_true, decide_eq_true_eq, beq_iff_eq, okRune, Bool.or_eq_true] at h
  rw [hc] at h
  exact .inr ⟨hw, hl, hk1, hk4, h.1.1, h.2, h.1.2.1, h.1.2.2, h128⟩
set_option maxRecDepth 100000 in
set_option maxHeartbeats 4000000 in
theorem decode_long (l : List Nat) (hl : ∀ x ∈ l, x < 256) (hne : l ≠ []) : DecAs l (Lib.decodeN l.length (l.getD 0 0) (l.getD 1 0) (l.getD 2 0) (l.getD 3 0)) := by
  match l, hne, hl with
  | [a], _, hl =>
    have ha : a < 256 := hl a (by simp)
    have r1 := isRune1 (r := []) ha
    have r2 : isRune 2 [a] = false := isRune_short (by simp)
    have r3 : isRune 3 [a] = false := isRune_short (by simp)
    have r4 : isRune 4 [a] = false := isRune_short (by simp)
    simp only [Lib.decodeN, List.length_cons, List.length_nil, List.getD_cons_zero, List.getD_cons_succ, List.getD_nil]
    by_cases h : a < 128
    · rw [if_pos h]
      rw [decide_eq_true h] at r1
      exact decAs_yes (by omega) (by omega) (by simp [long, r1]) r1 a rfl (by omega) (by simp [h])
    · rw [if_neg h, if_neg (by omega), if_neg (by omega), if_neg (by omega)]
      rw [decide_eq_false h] at r1
      exact .inl ⟨rfl, by simp [long, r1, r2, r3, r4]⟩
  | [a, b], _, hl =>
    have ha : a < 256 := hl a (by simp)
    have hb : b < 256 := hl b (by simp)
    have r1 := isRune1 (r := [b]) ha
    have r2 := isRune2 (a := a) (r := []) hb
    have r3 : isRune 3 [a, b] = false := isRune_short (by simp)
    have r4 : isRune 4 [a, b] = false := isRune_short (by simp)
    simp only [Lib.decodeN, List.length_cons, List.length_nil, List.getD_cons_zero, List.getD_cons_succ, List.getD_nil]
    by_cases h : a < 128
    · rw [if_pos h]
      rw [decide_eq_true h] at r1
      exact decAs_yes (by omega) (by omega) (by simp [long, r1]) r1 a rfl (by omega) (by simp [h])
    rw [if_neg h]
    rw [decide_eq_false h] at r1
    by_cases h2 : a / 32 = 6 ∧ b / 64 = 2 ∧ 128 ≤ a % 32 * 64 + b % 64
    · rw [decide_eq_true h2] at r2
      rw [if_pos (by omega), if_pos (by omega)]
      exact decAs_yes (by omega) (by omega) (by simp [long, r1, r2]) r2 _ rfl (by omega) (by omega)
    · rw [decide_eq_false h2] at r2
      have hz : long [a, b] = 0 := by simp [long, r1, r2, r3, r4]
      repeat' split
      all_goals first | exact .inl ⟨rfl, hz⟩ | (exfalso; omega)
  | [a, b, c], _, hl =>
    have ha : a < 256 := hl a (by simp)
    have hb : b < 256 := hl b (by simp)
    have hc : c < 256 := hl c (by simp)
    have r1 := isRune1 (r := [b, c]) ha
    have r2 := isRune2 (a := a) (r := [c]) hb
    have r3 := isRune3 (a := a) (r := []) hb hc
    have r4 : isRune 4 [a, b, c] = false := isRune_short (by simp)
    simp only [Lib.decodeN, List.length_cons, List.length_nil, List.getD_cons_zero, List.getD_cons_succ, List.getD_nil]
    by_cases h : a < 128
    · rw [if_pos h]
      rw [decide_eq_true h] at r1
      exact decAs_yes (by omega) (by omega) (by simp [long, r1]) r1 a rfl (by omega) (by simp [h])
    rw [if_neg h]
    rw [decide_eq_false h] at r1
    by_cases h2 : a / 32 = 6 ∧ b / 64 = 2 ∧ 128 ≤ a % 32 * 64 + b % 64
    · rw [decide_eq_true h2] at r2
      rw [if_pos (by omega), if_pos (by omega)]
      exact decAs_yes (by omega) (by omega) (by simp [long, r1, r2]) r2 _ rfl (by omega) (by omega)
    rw [decide_eq_false h2] at r2
    by_cases h3 : a / 16 = 14 ∧ b / 64 = 2 ∧ c / 64 = 2 ∧ 2048 ≤ a % 16 * 4096 + b % 64 * 64 + c % 64 ∧ (a % 16 * 4096 + b % 64 * 64 + c % 64 < 55296 ∨ 57343 < a % 16 * 4096 + b % 64 * 64 + c % 64)
    · rw [decide_eq_true h3] at r3
      rw [if_neg (by omega), if_pos (by omega), if_pos (by omega)]
      exact decAs_yes (by omega) (by omega) (by simp [long, r1, r2, r3]) r3 _ (by show (a % 16 * 64 + b % 64) * 64 + c % 64 = _; omega) (by omega) (by omega)
    · rw [decide_eq_false h3] at r3
      have hz : long [a, b, c] = 0 := by simp [long, r1, r2, r3, r4]
      repeat' split
      all_goals first | exact .inl ⟨rfl, hz⟩ | (exfalso; omega)
  | a :: b :: c :: d :: r, _, hl =>
    have ha : a < 256 := hl a (by simp)
    have hb : b < 256 := hl b (by simp)
    have hc : c < 256 := hl c (by simp)
    have hd : d < 256 := hl d (by simp)
    have r1 := isRune1 (r := b :: c :: d :: r) ha
    have r2 := isRune2 (a := a) (r := c :: d :: r) hb
    have r3 := isRune3 (a := a) (r := d :: r) hb hc
    have r4 := isRune4 (a := a) (d := d) (r := r) hb hc
    simp only [Lib.decodeN, List.length_cons, List.getD_cons_zero, List.getD_cons_succ]
    by_cases h : a < 128
    · rw [if_pos h]
      rw [decide_eq_true h] at r1
      exact decAs_yes (by omega) (by omega) (by simp [long, r1]) r1 a rfl (by omega) (by simp [h])
    rw [if_neg h]
    rw [decide_eq_false h] at r1
    by_cases h2 : a / 32 = 6 ∧ b / 64 = 2 ∧ 128 ≤ a % 32 * 64 + b % 64
    · rw [decide_eq_true h2] at r2
      rw [if_pos (by omega), if_pos (by omega)]
      exact decAs_yes (by omega) (by omega) (by simp [long, r1, r2]) r2 _ rfl (by omega) (by omega)
    rw [decide_eq_false h2] at r2
    by_cases h3 : a / 16 = 14 ∧ b / 64 = 2 ∧ c / 64 = 2 ∧ 2048 ≤ a % 16 * 4096 + b % 64 * 64 + c % 64 ∧ (a % 16 * 4096 + b % 64 * 64 + c % 64 < 55296 ∨ 57343 < a % 16 * 4096 + b % 64 * 64 + c % 64)
    · rw [decide_eq_true h3] at r3
      rw [if_neg (by omega), if_pos (by omega), if_pos (by omega)]
      exact decAs_yes (by omega) (by omega) (by simp [long, r1, r2, r3]) r3 _ (by show (a % 16 * 64 + b % 64) * 64 + c % 64 = _; omega) (by omega) (by omega)
    rw [decide_eq_false h3] at r3
    by_cases h4 : a / 8 = 30 ∧ b / 64 = 2 ∧ c / 64 = 2 ∧ d / 64 = 2 ∧ 65536 ≤ a % 8 * 262144 + b % 64 * 4096 + c % 64 * 64 + d % 64 ∧ a % 8 * 262144 + b % 64 * 4096 + c % 64 * 64 + d % 64 ≤ 1114111
    · rw [decide_eq_true h4] at r4
      rw [if_neg (by omega), if_neg (by omega), if_pos (by omega), if_pos (by omega)]
      exact decAs_yes (by omega) (by omega) (by simp [long, r1, r2, r3, r4]) r4 _ (by show ((a % 8 * 64 + b % 64) * 64 + c % 64) * 64 + d % 64 = _; omega) (by omega) (by omega)
    · rw [decide_eq_false h4] at r4
      have hz : long (a :: b :: c :: d :: r) = 0 := by simp [long, r1, r2, r3, r4]
      repeat' split
      all_goals first | exact .inl ⟨rfl, hz⟩ | (exfalso; omega)
end Go.Proofs.YtnbaajdcakjlmaaDoor.Jq

/-
  Values as texts, plain: the reading as the program does it, rune by rune and item by item, against the reading of JM.
-/
namespace Go.Proofs.YtnbaajdcakjlmaaDoor.Jq

/-! Runes of a text. -/
/-- One rune of a text, be it escaped or not, and what is left. -/
def letter : List Nat → Option (Nat × List Nat)
  | [] => none
  | c :: r => if c < 32 then none else if c = 92 then escape r else if long (c :: r) = 0 then none else some (runeOf (long (c :: r)) (c :: r), (c :: r).drop (long (c :: r)))
theorem long_rune_bytes {l : List Nat} (h : long l ≠ 0) : runeBytes (runeOf (long l) l) = l.take (long l) ∧ okRune (runeOf (long l) l) = true := by
  have main : isRune (long l) l = true := by
    rcases long_cases l with h1 | ⟨h1, h2⟩ | ⟨h1, _, h2⟩ | ⟨h1, _, _, h2⟩ | ⟨h1, _, _, _, h2⟩
    · exact absurd h1 h
    all_goals (rw [h1]; exact h2)
  unfold isRune at main
  simp only [Bool.and_eq_true, decide_eq_true_eq, beq_iff_eq] at main
  exact ⟨main.2, main.1.2⟩
theorem letter_ok {l r : List Nat} {x : Nat} (h : letter l = some (x, r)) : okRune x = true ∧ r.length < l.length := by
  match l, h with
  | c :: q, h =>
    rw [letter] at h
    split at h
    · cases h
    split at h
    · obtain ⟨h1, _, h3⟩ := escape_ok h
      exact ⟨h1, by rw [List.length_cons]; omega⟩
    split at h
    · cases h
    · rename_i h0
      injection h with h
      injection h with h1 h2
      have hle := long_le (c :: q) (by omega)
      rw [← h1, ← h2, List.length_drop]
      exact ⟨(long_rune_bytes h0).2, by omega⟩
theorem textF_fuel : ∀ (f g : Nat) (l : List Nat), l.length < f → l.length < g → textF f l = textF g l
  | 0, _, _, h, _ => by omega
  | _ + 1, 0, _, _, h => by omega
  | f + 1, g + 1, [], _, _ => by rw [textF, textF]
  | f + 1, g + 1, c :: r, hf, hg => by
    rw [List.length_cons] at hf hg
    rw [textF, textF]
    split
    · rfl
    split
    · rfl
    split
    · split
      · rfl
      · rename_i x r' he
        obtain ⟨_, _, h3⟩ := escape_ok he
        rw [textF_fuel f g r' (by omega) (by omega)]
    split
    · rfl
    · rename_i h0
      have hle := long_le (c :: r) (by omega)
      rw [textF_fuel f g _ (by rw [List.length_drop, List.length_cons]; omega) (by rw [List.length_drop, List.length_cons]; omega)]
theorem textF_text {f : Nat} {l : List Nat} (h : l.length < f) : textF f l = text l := textF_fuel _ _ _ h (Nat.lt_succ_self _)
theorem text_end (r : List Nat) : text (34 :: r) = .ok ([], r) := by
  rw [text, List.length_cons, textF]
  simp
theorem text_step {l : List Nat} (h : l.head? ≠ some 34) : text l = match letter l with | none => .error 53 | some (x, r) => (text r).map fun q => (runeBytes x ++ q.1, q.2) := by
  match l, h with
  | [], _ => rfl
  | c :: r, h =>
    have hc : ¬ c = 34 := fun e => h (by rw [e]; rfl)
    rw [text, List.length_cons, textF, letter]
    by_cases h1 : c < 32
    · rw [if_pos h1, if_pos h1]
    rw [if_neg h1, if_neg h1, if_neg hc]
    by_cases h2 : c = 92
    · rw [if_pos h2, if_pos h2]
      cases he : escape r with
      | none => rfl
      | some p =>
        obtain ⟨x, r'⟩ := p
        obtain ⟨_, _, h3⟩ := escape_ok he
        simp only
        rw [textF_text (by omega)]
    rw [if_neg h2, if_neg h2]
    by_cases h3 : long (c :: r) = 0
    · rw [if_pos h3, if_pos h3]
    rw [if_neg h3, if_neg h3]
    have hle := long_le (c :: r) (by omega)
    simp only
    rw [textF_text (by rw [List.length_drop, List.length_cons]; omega), (long_rune_bytes h3).1]

/-! What follows a backslash. -/
def short (c : Nat) : Option Nat := if c = 34 ∨ c = 92 ∨ c = 47 then some c else if c = 98 then some 8 else if c = 102 then some 12 else if c = 110 then some 10 else if c = 114 then some 13 else if c = 116 then some 9 else none
/-- A u and four signs. -/
def unit : List Nat → Option (Nat × List Nat)
  | 117 :: r => (four r).map fun n => (n, r.drop 4)
  | _ => none
theorem unit_u (r : List Nat) : unit (117 :: r) = (four r).map fun n => (n, r.drop 4) := rfl
theorem unit_no {l : List Nat} (h : l.head? ≠ some 117) : unit l = none := by
  unfold unit
  split
  · exact absurd rfl h
  · rfl
theorem unit_ok {l r : List Nat} {n : Nat} (h : unit l = some (n, r)) : n < 65536 ∧ r.length + 5 ≤ l.length := by
  match l, h with
  | 117 :: q, h =>
    rw [unit_u] at h
    cases hf : four q with
    | none => rw [hf] at h; cases h
    | some m =>
      rw [hf] at h
      injection h with h
      injection h with h1 h2
      obtain ⟨f1, f2⟩ := four_lt hf
      subst h1 h2
      exact ⟨f1, by rw [List.length_drop, List.length_cons]; omega⟩
/-- A rune's number, or the two halves of one, from the u on. -/
def escRune (l : List Nat) : Option (Nat × List Nat) :=
  match unit l with
  | none => none
  | some (n, r) =>
    if n < 55296 ∨ 57343 < n then some (n, r)
    else if 56320 ≤ n ∨ r.head? ≠ some 92 then none
    else match unit (r.drop 1) with
      | none => none
      | some (m, r2) => if m < 56320 ∨ 57343 < m then none else some (65536 + (n - 55296) * 1024 + (m - 56320), r2)
theorem escape_u (r : List Nat) : escape (117 :: r) = escRune (117 :: r) := by
  rw [escape]
  simp only [show ¬ (117 = 34 ∨ 117 = 92 ∨ 117 = 47) from by omega, show ¬ (117 = 98) from by omega, show ¬ (117 = 102) from by omega, show ¬ (117 = 110) from by omega, show ¬ (117 = 114) from by omega, show ¬ (117 = 116) from by omega, if_false, if_true]
  unfold escRune
  rw [unit_u]
  cases hf : four r with
  | none => rfl
  | some n =>
    simp only [Option.map_some]
    by_cases h1 : n < 55296 ∨ 57343 < n
    · rw [if_pos h1, if_pos h1]
    rw [if_neg h1, if_neg h1]
    by_cases h2 : 56320 ≤ n
    · rw [if_neg (fun h => by omega), if_pos (.inl h2)]
    match e : r.drop 4 with
    | [] => rw [if_neg (fun h => by simp at h), if_pos (.inr (by simp))]
    | [a] =>
      by_cases ha : a = 92
      · subst ha
        rw [if_neg (fun h => by simp at h), if_neg (by simp; omega)]
        rfl
      · rw [if_neg (fun h => by simp at h), if_pos (.inr (by simpa using ha))]
    | a :: b :: q =>
      have e6 : r.drop 6 = q := by rw [show 6 = 4 + 2 from rfl, ← List.drop_drop, e]; rfl
      have e10 : r.drop 10 = q.drop 4 := by rw [show 10 = 6 + 4 from rfl, ← List.drop_drop, e6]
      by_cases ha : a = 92
      · subst ha
        by_cases hb : b = 117
        · subst hb
          rw [if_pos ⟨by omega, rfl⟩, if_neg (by simp; omega), e6, e10]
          show _ = match unit (117 :: q) with | none => none | some (m, r2) => if m < 56320 ∨ 57343 < m then none else some (65536 + (n - 55296) * 1024 + (m - 56320), r2)
          rw [unit_u]
          cases hm : four q with
          | none => rfl
          | some m =>
            simp only [Option.map_some]
            by_cases h3 : 56320 ≤ m ∧ m ≤ 57343
            · rw [if_pos h3, if_neg (by omega)]
            · rw [if_neg h3, if_pos (by omega)]
        · rw [if_neg (fun h => by simp at h; exact hb h.2), if_neg (by simp; omega)]
          show none = match unit (b :: q) with | none => none | some (m, r2) => if m < 56320 ∨ 57343 < m then none else some (65536 + (n - 55296) * 1024 + (m - 56320), r2)
          rw [unit_no (by simpa using hb)]
      · rw [if_neg (fun h => by simp at h; exact ha h.2.1), if_pos (.inr (by simpa using ha))]
theorem escape_short {c : Nat} (h : c ≠ 117) (r : List Nat) : escape (c :: r) = (short c).map fun x => (x, r) := by
  rw [escape, short, if_neg h]
  repeat' split
  all_goals rfl

/-! Items. -/
/-- Items with commas between them, up to the sign that closes them. -/
def itemsG {σ : Type} (fin : Nat) (item : σ → List Nat → R σ) : Nat → σ → List Nat → R σ
  | 0, _, _ => .error 51
  | f + 1, s, l =>
    match item s l with
    | .error e => .error e
    | .ok (s', r) =>
      if (skip r).head? = some 44 then itemsG fin item f s' ((skip r).drop 1)
      else if (skip r).head? = some fin then .ok (s', (skip r).drop 1)
      else .error 51
def allG {σ : Type} (fin : Nat) (item : σ → List Nat → R σ) (s : σ) (l : List Nat) : R σ :=
  if (skip l).head? = some fin then .ok (s, (skip l).drop 1) else itemsG fin item ((skip l).length + 1) s (skip l)
theorem skip_skip (l : List Nat) : skip (skip l) = skip l := by
  unfold skip
  induction l with
  | nil => rfl
  | cons a l ih =>
    rw [List.dropWhile_cons]
    split
    · exact ih
    · rename_i h
      rw [List.dropWhile_cons, if_neg h]
theorem value_skip (n : Nat) (l : List Nat) : value n (skip l) = value n l := by
  rw [value.eq_def, value.eq_def n l]
  simp only [skip_skip]
def itemL (elem : List Nat → R J) (s : List J) (l : List Nat) : R (List J) := (elem l).map fun q => (s ++ [q.1], q.2)
theorem items_if (elem : List Nat → R J) (f : Nat) (l : List Nat) : items elem (f + 1) l = match elem l with
    | .error e => .error e
    | .ok (v, r) => if (skip r).head? = some 93 then .ok ([v], (skip r).drop 1) else if (skip r).head? = some 44 then (items elem f (skip ((skip r).drop 1))).map (fun q => (v :: q.1, q.2)) else .error 51 := by
  rw [items]
  cases elem l with
  | error e => rfl
  | ok p =>
    obtain ⟨v, r⟩ := p
    simp only
    cases skip r with
    | nil => rfl
    | cons a q =>
      by_cases h93 : a = 93
      · subst h93; rfl
      by_cases h44 : a = 44
      · subst h44; rfl
      rw [if_neg (by simpa using h93), if_neg (by simpa using h44)]
      split
      · rename_i e; injection e with e _; exact absurd e h93
      · rename_i e; injection e with e _; exact absurd e h44
      · rfl
theorem items_G {elem : List Nat → R J} (hE : ∀ l, elem (skip l) = elem l) : ∀ (f : Nat) (s : List J) (l : List Nat), itemsG 93 (itemL elem) f s l = (items elem f l).map fun q => (s ++ q.1, q.2)
  | 0, _, _ => rfl
  | f + 1, s, l => by
    rw [itemsG, items_if, itemL]
    cases he : elem l with
    | error e => rfl
    | ok p =>
      obtain ⟨v, r⟩ := p
      simp only [Except.map]
      by_cases h44 : (skip r).head? = some 44
      · have ih := items_G hE f (s ++ [v]) ((skip r).drop 1)
        have e2 : items elem f (skip ((skip r).drop 1)) = items elem f ((skip r).drop 1) := by
          cases f with
          | zero => rfl
          | succ f => rw [items_if, items_if, hE]
        rw [if_pos h44, if_neg (by rw [h44]; decide), if_pos h44, ih, e2]
        cases items elem f ((skip r).drop 1) with
        | error e => rfl
        | ok p => simp [Except.map]
      · rw [if_neg h44]
        by_cases h93 : (skip r).head? = some 93
        · rw [if_pos h93, if_pos h93]
        · rw [if_neg h93, if_neg h93, if_neg h44]
theorem list_G {elem : List Nat → R J} (hE : ∀ l, elem (skip l) = elem l) (l : List Nat) : listOf elem l = (allG 93 (itemL elem) [] l).map fun q => (listJ q.1, q.2) := by
  unfold listOf allG
  split
  · rename_i r e
    rw [e, if_pos (show (93 :: r).head? = some 93 from rfl)]
    rfl
  · rename_i h
    rw [if_neg (fun e => by
      cases hs : skip l with
      | nil => rw [hs] at e; cases e
      | cons a q => rw [hs] at e; simp at e; subst e; exact h _ hs), items_G hE]
    cases items elem ((skip l).length + 1) (skip l) with
    | error e => rfl
    | ok p => simp [Except.map]
/-- One member of an object: its name, and its value. -/
def itemO (elem : List Nat → R J) (s : List (List Nat) × List J) (l : List Nat) : R (List (List Nat) × List J) :=
  match skip l with
  | 34 :: r =>
    match text r with
    | .error e => .error e
    | .ok (n, r1) =>
      if n ∈ s.1 then .error 54
      else match skip r1 with
        | 58 :: r2 => (elem r2).map fun q => ((s.1 ++ [n], s.2 ++ [q.1]), q.2)
        | _ => .error 51
  | _ => .error 51
/-- What follows a name, and its value. -/
theorem itemO_if (elem : List Nat → R J) (s : List (List Nat) × List J) (l : List Nat) : itemO elem s l =
    if (skip l).head? = some 34 then match text ((skip l).drop 1) with
      | .error e => .error e
      | .ok (n, r1) => if n ∈ s.1 then .error 54 else if (skip r1).head? = some 58 then (elem ((skip r1).drop 1)).map (fun q => ((s.1 ++ [n], s.2 ++ [q.1]), q.2)) else .error 51
    else .error 51 := by
  rw [itemO]
  cases skip l with
  | nil => rfl
  | cons c r =>
    by_cases hc : c = 34
    · subst hc
      rw [if_pos (show (34 :: r).head? = some 34 from rfl)]
      simp only [List.drop_succ_cons, List.drop_zero]
      cases text r with
      | error e => rfl
      | ok p =>
        obtain ⟨n, r1⟩ := p
        simp only
        split
        · rfl
        cases skip r1 with
        | nil => rfl
        | cons a q =>
          by_cases ha : a = 58
          · subst ha; rfl
          · rw [if_neg (by simpa using ha)]
            split
            · rename_i e; injection e with e _; exact absurd e ha
            · rfl
    · rw [if_neg (by simpa using hc)]
      split
      · rename_i e; injection e with e _; exact absurd e hc
      · rfl
theorem members_if (elem : List Nat → R J) (f : Nat) (ns : List (List Nat)) (l : List Nat) : members elem (f + 1) ns l =
    if l.head? = some 34 then match text (l.drop 1) with
      | .error e => .error e
      | .ok (n, r1) => if n ∈ ns then .error 54 else if (skip r1).head? = some 58 then match elem ((skip r1).drop 1) with
          | .error e => .error e
          | .ok (v, r3) => if (skip r3).head? = some 125 then .ok (([n], [v]), (skip r3).drop 1) else if (skip r3).head? = some 44 then (members elem f (ns ++ [n]) (skip ((skip r3).drop 1))).map (fun q => ((n :: q.1.1, v :: q.1.2), q.2)) else .error 51
        else .error 51
    else .error 51 := by
  rw [members.eq_def]
  cases l with
  | nil => rfl
  | cons c r =>
    by_cases hc : c = 34
    · subst hc
      rw [if_pos (show (34 :: r).head? = some 34 from rfl)]
      simp only [List.drop_succ_cons, List.drop_zero]
      cases text r with
      | error e => rfl
      | ok p =>
        obtain ⟨n, r1⟩ := p
        simp only
        split
        · rfl
        cases skip r1 with
        | nil => rfl
        | cons a q =>
          by_cases ha : a = 58
          · subst ha
            rw [if_pos (show (58 :: q).head? = some 58 from rfl)]
            simp only [List.drop_succ_cons, List.drop_zero]
            cases elem q with
            | error e => rfl
            | ok p =>
              obtain ⟨v, r3⟩ := p
              simp only
              cases skip r3 with
              | nil => rfl
              | cons b t =>
                by_cases h1 : b = 125
                · subst h1; rfl
                by_cases h2 : b = 44
                · subst h2; rfl
                rw [if_neg (by simpa using h1), if_neg (by simpa using h2)]
                split
                · rename_i e; injection e with e _; exact absurd e h1
                · rename_i e; injection e with e _; exact absurd e h2
                · rfl
          · rw [if_neg (by simpa using ha)]
            split
            · rename_i e; injection e with e _; exact absurd e ha
            · rfl
    · rw [if_neg (by simpa using hc)]
      simp only
      split
      · rename_i e; injection e with e _; exact absurd e hc
      · rfl
theorem members_G {elem : List Nat → R J} : ∀ (f : Nat) (ns : List (List Nat)) (vs : List J) (l : List Nat), itemsG 125 (itemO elem) f (ns, vs) l = (members elem f ns (skip l)).map fun q => ((ns ++ q.1.1, vs ++ q.1.2), q.2)
  | 0, _, _, _ => rfl
  | f + 1, ns, vs, l => by
    rw [itemsG, itemO_if, members_if]
    by_cases h34 : (skip l).head? = some 34
    · rw [if_pos h34, if_pos h34]
      cases ht : text ((skip l).drop 1) with
      | error e => rfl
      | ok p =>
        obtain ⟨n, r1⟩ := p
        simp only
        by_cases hn : n ∈ ns
        · rw [if_pos hn, if_pos hn]; rfl
        rw [if_neg hn, if_neg hn]
        by_cases h58 : (skip r1).head? = some 58
        · rw [if_pos h58, if_pos h58]
          cases he : elem ((skip r1).drop 1) with
          | error e => rfl
          | ok p =>
            obtain ⟨v, r3⟩ := p
            simp only [Except.map]
            by_cases h44 : (skip r3).head? = some 44
            · have ih := members_G (elem := elem) f (ns ++ [n]) (vs ++ [v]) ((skip r3).drop 1)
              rw [if_pos h44, if_neg (by rw [h44]; decide), if_pos h44, ih]
              cases members elem f (ns ++ [n]) (skip ((skip r3).drop 1)) with
              | error e => rfl
              | ok p => simp [Except.map]
            · rw [if_neg h44]
              by_cases h125 : (skip r3).head? = some 125
              · rw [if_pos h125, if_pos h125]
              · rw [if_neg h125, if_neg h125, if_neg h44]
        · rw [if_neg h58, if_neg h58]; rfl
    · rw [if_neg h34, if_neg h34]; rfl
theorem object_G {elem : List Nat → R J} (l : List Nat) : objectOf elem l = (allG 125 (itemO elem) ([], []) l).map fun q => (objJ q.1.1 q.1.2, q.2) := by
  unfold objectOf allG
  split
  · rename_i r e
    rw [e, if_pos (show (125 :: r).head? = some 125 from rfl)]
    rfl
  · rename_i h
    rw [if_neg (fun e => by
      cases hs : skip l with
      | nil => rw [hs] at e; cases e
      | cons a q => rw [hs] at e; simp at e; subst e; exact h _ hs), members_G, skip_skip]
    cases members elem ((skip l).length + 1) [] (skip l) with
    | error e => rfl
    | ok p => simp [Except.map]
end Go.Proofs.YtnbaajdcakjlmaaDoor.Jq
