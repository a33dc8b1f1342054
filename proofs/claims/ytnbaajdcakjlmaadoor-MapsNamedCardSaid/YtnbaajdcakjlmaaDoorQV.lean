/-
  QV: JN JV, side by side.
-/
import Derived.Test.YtnbaajdcakjlmaaDoorQA
import Derived.Lib.AtoiAllCases
import Derived.Test.YtnbaajdcakjlmaaDoorQU
import Derived.Lib.ValidLaws

/-
  Values as texts, plain: numbers as the program reads them, by the library's Atoi on their digits.
-/
namespace Go.Proofs.YtnbaajdcakjlmaaDoor.Jq

/-- What digits spell behind what was spelt. -/
def spell (acc : Nat) (L : List Nat) : Nat := L.foldl (fun n c => n * 10 + (c - 48)) acc
theorem spell_val (L : List Nat) : spell 0 L = Uq.val L := rfl
theorem spell_ge : ∀ (L : List Nat) (acc : Nat), acc ≤ spell acc L
  | [], acc => Nat.le_refl _
  | c :: r, acc => by
    have := spell_ge r (acc * 10 + (c - 48))
    show acc ≤ spell (acc * 10 + (c - 48)) r
    omega
theorem uint_digits : ∀ (l : List UInt8) (acc : Nat), acc < 18446744073709551616 → (∀ c ∈ Uq.nums l, dig c = true) → (spell acc (Uq.nums l) < 18446744073709551616 ∧ Lib.parseUint10 acc l = .ok (spell acc (Uq.nums l))) ∨ (18446744073709551616 ≤ spell acc (Uq.nums l) ∧ Lib.parseUint10 acc l = .range)
  | [], acc, ha, _ => .inl ⟨ha, rfl⟩
  | c :: r, acc, ha, h => by
    have hc := (dig_iff _).1 (h c.toNat (by simp [Uq.nums]))
    have hr : ∀ x ∈ Uq.nums r, dig x = true := fun x hx => h x (by simp [Uq.nums] at hx ⊢; exact .inr hx)
    have e : spell acc (Uq.nums (c :: r)) = spell (acc * 10 + (c.toNat - 48)) (Uq.nums r) := rfl
    have hge := spell_ge (Uq.nums r) (acc * 10 + (c.toNat - 48))
    rw [Lib.parseUint10, if_pos hc, e]
    by_cases h1 : 1844674407370955162 ≤ acc
    · rw [if_pos h1]
      exact .inr ⟨by omega, rfl⟩
    rw [if_neg h1]
    by_cases h2 : 18446744073709551616 ≤ acc * 10 + (c.toNat - 48)
    · rw [if_pos h2]
      exact .inr ⟨by omega, rfl⟩
    rw [if_neg h2]
    exact uint_digits r _ (by omega) hr
theorem atoi_digits {l : List UInt8} (hne : l ≠ []) (h : ∀ c ∈ Uq.nums l, dig c = true) : (Uq.val (Uq.nums l) < 9223372036854775808 ∧ Lib.atoiAll l = .ok (Uq.val (Uq.nums l) : Int)) ∨ (9223372036854775808 ≤ Uq.val (Uq.nums l) ∧ ∀ v : Int, Lib.atoiAll l ≠ .ok v) := by
  match l, hne with
  | c :: r, _ =>
    have hc := (dig_iff _).1 (h c.toNat (by simp [Uq.nums]))
    have hu := uint_digits (c :: r) 0 (by decide) h
    rw [spell_val] at hu
    rw [Lib.atoiAll_plain c r (by omega) (by omega)]
    unfold Lib.parseMag
    rw [if_neg (by simp)]
    rcases hu with ⟨h1, h2⟩ | ⟨h1, h2⟩
    · rw [h2]
      unfold Lib.signless
      by_cases h3 : 9223372036854775808 ≤ Uq.val (Uq.nums (c :: r))
      · simp only [if_pos h3]
        exact .inr ⟨h3, fun v e => by cases e⟩
      · simp only [if_neg h3]
        exact .inl ⟨by omega, trivial⟩
    · rw [h2]
      exact .inr ⟨by omega, fun v e => by cases e⟩
theorem atoi_none : ∀ v : Int, Lib.atoiAll [] ≠ .ok v := fun v e => by cases e

/-! The number as the program asks. -/
theorem val_first {d : List Nat} {c : Nat} (h : d.head? = some c) (hd : ∀ x ∈ d, dig x = true) (h48 : c ≠ 48) : Uq.val d ≠ 0 := by
  match d, h with
  | a :: r, h =>
    have : a = c := by simpa using h
    subst this
    have ha := (dig_iff _).1 (hd a (by simp))
    have hge := spell_ge r (0 * 10 + (a - 48))
    have e : Uq.val (a :: r) = spell (0 * 10 + (a - 48)) r := rfl
    omega
theorem val_zero {d : List Nat} (h : d.head? = some 48) (hl : ¬ 1 < d.length) : Uq.val d = 0 := by
  match d, h with
  | [a], h =>
    have : a = 48 := by simpa using h
    subst this
    rfl
  | a :: b :: r, _ => simp at hl
theorem digs_dig (r : List Nat) : ∀ x ∈ digs r, dig x = true := fun x hx => by
  unfold digs at hx
  have := List.all_takeWhile (p := dig) (l := r)
  rw [List.all_eq_true] at this
  exact this x hx
/-- What is amiss with a number, as the program asks it. -/
theorem numBad_iff (m : Bool) (r : List Nat) : NumBad m r ↔ digs r = [] ∨ top < Uq.val (digs r) ∨ ((digs r).head? = some 48 ∧ (m = true ∨ 1 < (digs r).length)) ∨ (r.drop (digs r).length).head? = some 46 ∨ (r.drop (digs r).length).head? = some 101 ∨ (r.drop (digs r).length).head? = some 69 := by
  unfold NumBad
  constructor
  · rintro (h | h | ⟨h1, h2⟩ | h | h | h | ⟨h1, h2⟩)
    · exact .inl h
    · exact .inr (.inl h)
    · cases hh : (digs r).head? with
      | none => exact .inl (by simpa using hh)
      | some c =>
        by_cases hc : c = 48
        · subst hc; exact .inr (.inr (.inl ⟨rfl, .inl h1⟩))
        · exact absurd h2 (val_first hh (digs_dig r) hc)
    · exact .inr (.inr (.inr (.inl h)))
    · exact .inr (.inr (.inr (.inr (.inl h))))
    · exact .inr (.inr (.inr (.inr (.inr h))))
    · exact .inr (.inr (.inl ⟨h1, .inr h2⟩))
  · rintro (h | h | ⟨h1, h2⟩ | h | h | h)
    · exact .inl h
    · exact .inr (.inl h)
    · by_cases hl : 1 < (digs r).length
      · exact .inr (.inr (.inr (.inr (.inr (.inr ⟨h1, hl⟩)))))
      · rcases h2 with h2 | h2
        · exact .inr (.inr (.inl ⟨h2, val_zero h1 hl⟩))
        · exact absurd h2 hl
    · exact .inr (.inr (.inr (.inl h)))
    · exact .inr (.inr (.inr (.inr (.inl h))))
    · exact .inr (.inr (.inr (.inr (.inr (.inl h)))))
end Go.Proofs.YtnbaajdcakjlmaaDoor.Jq

/-
  Values as texts, plain: which texts are the writing of runes, as the library and as the document say.
-/
namespace Go.Proofs.YtnbaajdcakjlmaaDoor.Jq

theorem validF_fuel : ∀ (f g : Nat) (t : List Nat), t.length ≤ f → t.length ≤ g → validF f t = validF g t
  | f, g, [], _, _ => by cases f <;> cases g <;> rfl
  | 0, _, _ :: _, h, _ => by simp at h
  | _ + 1, 0, _ :: _, _, h => by simp at h
  | f + 1, g + 1, c :: r, hf, hg => by
    rw [List.length_cons] at hf hg
    rw [validF, validF]
    split
    · rfl
    · rename_i h0
      have hle := long_le (c :: r) (by omega)
      exact validF_fuel f g _ (by rw [List.length_drop, List.length_cons]; omega) (by rw [List.length_drop, List.length_cons]; omega)
theorem valid_nil : valid [] = true := rfl
theorem valid_step {t : List Nat} (h : t ≠ []) : valid t = if long t = 0 then false else valid (t.drop (long t)) := by
  match t, h with
  | c :: r, _ =>
    rw [valid, List.length_cons, validF]
    split
    · rfl
    · rename_i h0
      have hle := long_le (c :: r) (by omega)
      exact validF_fuel _ _ _ (by rw [List.length_drop, List.length_cons]; omega) (Nat.le_refl _)
theorem getD_map (l : List UInt8) (j : Nat) : (l.map fun u : UInt8 => u.toNat).getD j 0 = (l.getD j 0).toNat := by
  rw [List.getD_eq_getElem?_getD, List.getD_eq_getElem?_getD, List.getElem?_map]
  cases l[j]? with
  | none => rfl
  | some u => rfl
theorem decodeL_as (l : List UInt8) (hne : l ≠ []) : DecAs (l.map fun u : UInt8 => u.toNat) (Lib.decodeL l) := by
  have h := decode_long (l.map fun u : UInt8 => u.toNat) (fun x hx => by
    obtain ⟨u, _, rfl⟩ := List.mem_map.1 hx
    exact u.toNat_lt) (by simpa using hne)
  rw [List.length_map, getD_map, getD_map, getD_map, getD_map] at h
  rw [Lib.decodeL_N]
  exact h
theorem validD_valid : ∀ (n : Nat) (l : List UInt8), l.length ≤ n → Lib.validD l = valid (l.map fun u : UInt8 => u.toNat)
  | _, [], _ => rfl
  | 0, _ :: _, h => by simp at h
  | n + 1, c :: r, h => by
    have hd := decodeL_as (c :: r) (by simp)
    rw [Lib.validD_step _ (by simp), valid_step (by simp)]
    rcases hd with ⟨h1, h2⟩ | ⟨h1, h2, h3, _, _⟩
    · rw [h1, h2, if_pos ⟨rfl, rfl⟩, if_pos rfl]
    · rw [if_neg (fun e => h1 ⟨e.1, by omega⟩), h2, if_neg (by omega), ← List.map_drop]
      exact validD_valid n _ (by rw [List.length_drop]; rw [List.length_cons] at h ⊢; omega)
end Go.Proofs.YtnbaajdcakjlmaaDoor.Jq
