/-
  Numbers as bytes, plain.
-/
import Derived.Test.YtkjofadabaecfaaTM
namespace Go.Proofs.Ytkjofadabaecfaa.Bq

def wholeF : Nat → Nat → List Nat → List Nat
  | 0, _, acc => acc
  | f + 1, n, acc => if n < 128 then (if acc = [] ∨ 0 < n ∨ 128 ≤ acc.headD 0 then n :: acc else acc) else wholeF f (n / 256) (n % 256 :: acc)
/-- A number's bytes, the most significant first; none, if it can't be. -/
def whole (n : Int) : List Nat := if n < 0 ∨ 2147483647 < n then [] else wholeF 6 n.toNat []
def valB (l : List Nat) : Nat := l.foldl (fun n c => n * 256 + c) 0
theorem valB_snoc (l : List Nat) (c : Nat) : valB (l ++ [c]) = valB l * 256 + c := by simp [valB]
theorem foldB (l : List Nat) : ∀ a : Nat, l.foldl (fun n c => n * 256 + c) a = a * 256 ^ l.length + valB l := by
  induction l with
  | nil => intro a; simp [valB]
  | cons c r ih =>
    intro a
    have h1 := ih (a * 256 + c)
    have h2 := ih (0 * 256 + c)
    rw [List.foldl_cons, h1, List.length_cons, Nat.pow_succ]
    unfold valB
    rw [List.foldl_cons, h2]
    unfold valB
    rw [Nat.add_mul, Nat.zero_mul, Nat.zero_add, ← Nat.add_assoc, Nat.mul_assoc, Nat.mul_comm 256]
theorem valB_cons (c : Nat) (r : List Nat) : valB (c :: r) = c * 256 ^ r.length + valB r := by
  have := foldB r (0 * 256 + c)
  unfold valB
  rw [List.foldl_cons, this, Nat.zero_mul, Nat.zero_add]
  rfl
theorem wholeF_val : ∀ (f n : Nat) (acc : List Nat), n < 128 * 256 ^ (f - 1) → 1 ≤ f → valB (wholeF f n acc) = n * 256 ^ acc.length + valB acc
  | 0, _, _, _, h => by omega
  | f + 1, n, acc, hn, _ => by
    rw [wholeF]
    by_cases h : n < 128
    · rw [if_pos h]
      split
      · exact valB_cons n acc
      · rename_i hc
        simp only [not_or] at hc
        have : n = 0 := by omega
        subst this
        simp
    · rw [if_neg h]
      cases f with
      | zero => simp at hn; omega
      | succ f =>
        have hn' : n < 128 * 256 ^ (f + 1) := hn
        rw [Nat.pow_succ] at hn'
        rw [wholeF_val (f + 1) (n / 256) (n % 256 :: acc) (by show n / 256 < 128 * 256 ^ f; omega) (by omega), valB_cons, List.length_cons, Nat.pow_succ]
        have e : n = n / 256 * 256 + n % 256 := by omega
        conv => rhs; rw [e, Nat.add_mul]
        rw [Nat.mul_assoc, Nat.mul_comm 256 (256 ^ acc.length)]
        omega
theorem whole_val {n : Nat} (h : n ≤ 2147483647) : valB (whole (n : Int)) = n := by
  unfold whole
  rw [if_neg (by omega), wholeF_val 6 _ [] (by simp; omega) (by omega)]
  simp [valB]
theorem wholeF_byte : ∀ (f n : Nat) (acc : List Nat), (∀ x ∈ acc, x < 256) → ∀ x ∈ wholeF f n acc, x < 256
  | 0, _, acc, h => h
  | f + 1, n, acc, h => by
    rw [wholeF]
    by_cases h1 : n < 128
    · rw [if_pos h1]
      split
      · intro x hx
        rcases List.mem_cons.1 hx with rfl | hx
        · omega
        · exact h x hx
      · exact h
    · rw [if_neg h1]
      refine wholeF_byte f _ _ fun x hx => ?_
      rcases List.mem_cons.1 hx with rfl | hx
      · omega
      · exact h x hx
theorem whole_byte (n : Int) : ∀ x ∈ whole n, x < 256 := by
  unfold whole
  split
  · exact fun x hx => nomatch hx
  · exact wholeF_byte _ _ _ fun x hx => nomatch hx
theorem wholeF_len : ∀ (f n : Nat) (acc : List Nat), acc.length + f = 6 → n * 256 ^ acc.length ≤ 2147483647 → acc.length ≤ 3 → 1 ≤ f → 1 ≤ (wholeF f n acc).length ∧ (wholeF f n acc).length ≤ 4
  | 0, _, _, _, _, _, h => by omega
  | f + 1, n, acc, hf, hn, ha, _ => by
    rw [wholeF]
    by_cases h : n < 128
    · rw [if_pos h]
      split
      · simp; omega
      · rename_i hc
        simp only [not_or] at hc
        have : 1 ≤ acc.length := by
          rcases Nat.eq_zero_or_pos acc.length with h0 | h0
          · exact absurd (List.eq_nil_of_length_eq_zero h0) hc.1
          · exact h0
        omega
    · rw [if_neg h]
      have h3 : acc.length ≠ 3 := fun e => by
        rw [e] at hn
        simp at hn
        omega
      have hn2 : n / 256 * 256 ^ (n % 256 :: acc).length ≤ 2147483647 := by
        rw [List.length_cons, Nat.pow_succ, ← Nat.mul_assoc, Nat.mul_right_comm]
        refine Nat.le_trans (Nat.mul_le_mul_right _ (Nat.div_mul_le_self n 256)) hn
      cases f with
      | zero =>
        omega
      | succ f => exact wholeF_len (f + 1) (n / 256) (n % 256 :: acc) (by rw [List.length_cons]; omega) hn2 (by rw [List.length_cons]; omega) (by omega)
end Go.Proofs.Ytkjofadabaecfaa.Bq
