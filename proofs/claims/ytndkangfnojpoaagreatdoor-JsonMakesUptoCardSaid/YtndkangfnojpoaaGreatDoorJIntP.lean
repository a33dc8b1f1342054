/-
  Numbers as texts, plain: which are read, and written.
-/
import Derived.Test.YtndkangfnojpoaaGreatDoorQA
namespace Go.Proofs.YtndkangfnojpoaaGreatDoor.Jq

theorem dig_byte {c : Nat} (h : 48 ≤ c ∧ c ≤ 57) : dig c = true := (dig_iff c).2 h
theorem takeWhile_all' {p : Nat → Bool} : ∀ (l : List Nat), (∀ x ∈ l, p x = true) → l.takeWhile p = l
  | [], _ => rfl
  | a :: r, h => by rw [List.takeWhile_cons, if_pos (h a (by simp)), takeWhile_all' r fun x hx => h x (by simp [hx])]
theorem digits_facts {m : Nat} (h : 1 ≤ m) : (∀ c ∈ digits m, 48 ≤ c ∧ c ≤ 57) ∧ Uq.val (digits m) = m ∧ digits m ≠ [] := by
  obtain ⟨h1, h2, _, h4, _⟩ := Uq.decDigits_nums m h
  exact ⟨h1, h2, fun e => h4 (by simpa [digits, Uq.nums] using e)⟩
/-- A number that is too great, or too small, is none. -/
theorem parse_big {n : Int} (h : n > 9007199254740991 ∨ n < -9007199254740991) (hl : (decimal n).length ≤ 4096) : parse (decimal n) = .error 52 := by
  have key : ∀ (m : Nat) (b : Bool), top < m → numberOf b (digits m) = .error 52 := fun m b hm => by
    obtain ⟨h1, h2, _⟩ := digits_facts (m := m) (by unfold top at hm; omega)
    unfold numberOf
    rw [if_pos]
    right; left
    unfold digs
    rw [takeWhile_all' _ fun x hx => dig_byte (h1 x hx), h2]
    exact hm
  have hv : value 16 (decimal n) = .error 52 := by
    by_cases hn : n < 0
    · have e : decimal n = 45 :: digits n.natAbs := if_pos hn
      rw [e, value.eq_def]
      have hs : skip (45 :: digits n.natAbs) = 45 :: digits n.natAbs := rfl
      simp only [hs]
      rw [if_neg (by decide), if_neg (by decide)]
      unfold scalar
      rw [if_neg (by decide), if_neg (by decide), if_neg (by decide), if_neg (by decide), if_pos (.inl rfl)]
      unfold number
      rw [if_pos (show (45 :: digits n.natAbs).head? = some 45 from rfl)]
      exact key _ _ (by unfold top; omega)
    · have e : decimal n = digits n.toNat := if_neg hn
      obtain ⟨h1, _, h3⟩ := digits_facts (m := n.toNat) (by omega)
      have hk := key n.toNat false (by unfold top; omega)
      rw [e]
      cases hd : digits n.toNat with
      | nil => exact absurd hd h3
      | cons c r =>
        rw [hd] at h1 hk
        have hc := h1 c (by simp)
        rw [value.eq_def]
        have hs : skip (c :: r) = c :: r := by
          unfold skip
          rw [List.dropWhile_cons, if_neg]
          unfold blank
          simp
          omega
        simp only [hs]
        rw [if_neg (by omega), if_neg (by omega)]
        unfold scalar
        rw [if_neg (by omega), if_neg (by omega), if_neg (by omega), if_neg (by omega), if_pos (.inr (dig_byte hc))]
        unfold number
        rw [if_neg (by simp; omega)]
        exact hk
  unfold parse
  rw [if_neg (by omega), hv]
theorem print_big {n : Int} (h : n > 9007199254740991 ∨ n < -9007199254740991) : valueP 16 [] (intJ n) = none := by
  cases hv : valueP 16 [] (intJ n) with
  | none => rfl
  | some B =>
    obtain ⟨hg, _⟩ := valueP_some hv
    obtain ⟨_, _, _, _, _, h1, h2, _⟩ := good_form hg
    have h1 : n ≤ 9007199254740991 := h1
    have h2 : -9007199254740991 ≤ n := h2
    omega
theorem int_good {n : Int} (h : -9007199254740991 ≤ n ∧ n ≤ 9007199254740991) : Good 16 (intJ n) :=
  good_plain (v := intJ n) ⟨by show (0 : Int) ≤ 2; decide, by show (2 : Int) < 4; decide⟩ (fun _ => rfl) (fun h => absurd rfl h) (fun _ => rfl) h.2 h.1 (Nat.zero_le _) rfl rfl rfl
theorem int_write (n : Int) : write 16 (intJ n) = decimal n := by
  rw [write.eq_def]; rfl
theorem parse_int {n : Int} (h : -9007199254740991 ≤ n ∧ n ≤ 9007199254740991) (hl : (decimal n).length ≤ 4096) : parse (decimal n) = .ok (intJ n) := by
  have := parse_write (int_good h) (by rw [int_write]; exact hl)
  rwa [int_write] at this
theorem print_int {n : Int} (h : -9007199254740991 ≤ n ∧ n ≤ 9007199254740991) (hl : (decimal n).length ≤ 4096) : valueP 16 [] (intJ n) = some (decimal n) := by
  have := valueP_yes (int_good h) (by rw [int_write]; exact hl)
  rwa [int_write] at this
end Go.Proofs.YtndkangfnojpoaaGreatDoor.Jq
