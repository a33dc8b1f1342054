/-
  strings.IndexByte at the signs; a sign out of them; the contract of joinSigns.
-/
import Derived.Test.YtejjjhehfpeilaaBSmall
namespace Go.Proofs.Ytejjjhehfpeilaa
open Go.RowKit

/-- The signs, as the program has them. -/
abbrev signsB : ByteArray := { data := #[65, 66, 67, 68, 69, 70, 71, 72, 73, 74, 75, 76, 77, 78, 79, 80, 81, 82, 83, 84, 85, 86, 87, 88, 89, 90, 97, 98, 99, 100, 101, 102, 103, 104, 105, 106, 107, 108, 109, 110, 111, 112, 113, 114, 115, 116, 117, 118, 119, 120, 121, 122, 48, 49, 50, 51, 52, 53, 54, 55, 56, 57, 45, 95] }

theorem index_signs : ∀ c, c < 256 → Lib.indexByte signsB.data.toList (((c : Nat) : Int).toNat.toUInt8) = if B64.val c < 64 then ((B64.val c : Nat) : Int) else -1 := by decide +kernel

set_option maxHeartbeats 400000 in
theorem liteIndex_any (s : ByteArray) (c : Int) (w : World) :
    Calls Try.prog 24 #[.string s, .int .u8 c] w fun e w' => e = .returned (.int .i64 (Lib.indexByte s.data.toList c.toNat.toUInt8)) ∧ w = w' := by
  go_enter Try.func24, Try.ntmps24
  go_wp2
  rw [run_callFunc_extern Try.func25 (by kernel_rfl) (by kernel_rfl) (by kernel_rfl) (e := Extern.BytealgIndexByte.indexByte) (by kernel_rfl), Lib.run_indexByteString]
  simp only [Result.andThen]
  rw [Oper.upon_value]
  go_wp2
  go_ret
  exact ⟨rfl, rfl⟩

set_option maxHeartbeats 400000 in
theorem index_any (s : ByteArray) (c : Int) (w : World) :
    Calls Try.prog 23 #[.string s, .int .u8 c] w fun e w' => e = .returned (.int .i64 (Lib.indexByte s.data.toList c.toNat.toUInt8)) ∧ w = w' := by
  go_enter Try.func23, Try.ntmps23
  go_wp2_with (go_at_call 24; refine (liteIndex_any _ _ _).mono ?_; rintro e w' ⟨rfl, rfl⟩)
  go_ret
  exact ⟨rfl, rfl⟩

theorem index_yes (c : Nat) (hc : c < 256) (h : B64.val c < 64) (w : World) :
    Calls Try.prog 23 #[.string signsB, .int .u8 c] w fun e w' => e = .returned (.int .i64 (B64.val c : Nat)) ∧ w = w' :=
  (index_any signsB c w).mono fun _ _ ⟨he, hw⟩ => ⟨by rw [he, index_signs c hc, if_pos h], hw⟩
theorem index_no (c : Nat) (hc : c < 256) (h : ¬ B64.val c < 64) (w : World) :
    Calls Try.prog 23 #[.string signsB, .int .u8 c] w fun e w' => e = .returned (.int .i64 (-1)) ∧ w = w' :=
  (index_any signsB c w).mono fun _ _ ⟨he, hw⟩ => ⟨by rw [he, index_signs c hc, if_neg h], hw⟩

/-- The signs behind the first ones, as bits from the most significant one down. -/
def jTo (L : List Nat) (k : Nat) : Nat := B64.jsum (L.take k)
theorem jTo_next (L : List Nat) (k : Nat) (hk : k < L.length) (h4 : k < 4) : jTo L (k + 1) = jTo L k + B64.val (L.getD k 0) * 2 ^ (18 - 6 * k) := by
  unfold jTo B64.jsum
  have e : ∀ i, i ≠ k → (L.take (k + 1)).getD i 65 = (L.take k).getD i 65 := by
    intro i hi
    rw [List.getD_eq_getElem?_getD, List.getD_eq_getElem?_getD, List.getElem?_take, List.getElem?_take]
    by_cases h : i < k
    · rw [if_pos h, if_pos (by omega)]
    · rw [if_neg h, if_neg (by omega)]
  have e1 : (L.take (k + 1)).getD k 65 = L.getD k 0 := by
    rw [List.getD_eq_getElem?_getD, List.getD_eq_getElem?_getD, List.getElem?_take, if_pos (by omega), List.getElem?_eq_getElem hk]; rfl
  have e2 : (L.take k).getD k 65 = 65 := by
    rw [List.getD_eq_getElem?_getD, List.getElem?_take, if_neg (by omega)]; rfl
  obtain rfl | rfl | rfl | rfl : k = 0 ∨ k = 1 ∨ k = 2 ∨ k = 3 := by omega
  · rw [e1, e2, e 1 (by omega), e 2 (by omega), e 3 (by omega), B64.val65]; omega
  · rw [e1, e2, e 0 (by omega), e 2 (by omega), e 3 (by omega), B64.val65]; omega
  · rw [e1, e2, e 0 (by omega), e 1 (by omega), e 3 (by omega), B64.val65]; omega
  · rw [e1, e2, e 0 (by omega), e 1 (by omega), e 2 (by omega), B64.val65]; omega
theorem jTo_lt (L : List Nat) (k : Nat) (ok : ∀ j, j < k → B64.val (L.getD j 0) < 64) (hk : k ≤ L.length) (h4 : k ≤ 4) : ∃ m, jTo L k = 2 ^ (24 - 6 * k) * m ∧ m < 2 ^ (6 * k) := by
  induction k with
  | zero => exact ⟨0, by simp [jTo, B64.jsum, B64.val65], by decide⟩
  | succ k ih =>
    obtain ⟨m, h1, h2⟩ := ih (fun j hj => ok j (by omega)) (by omega) (by omega)
    have hv := ok k (by omega)
    refine ⟨64 * m + B64.val (L.getD k 0), ?_, ?_⟩
    · rw [jTo_next L k (by omega) (by omega), h1]
      obtain rfl | rfl | rfl | rfl : k = 0 ∨ k = 1 ∨ k = 2 ∨ k = 3 := by omega
      all_goals (simp only [Nat.reduceMul, Nat.reduceSub, Nat.reduceAdd, Nat.reducePow]; omega)
    · have : 2 ^ (6 * (k + 1)) = 2 ^ (6 * k) * 64 := by rw [Nat.mul_succ, Nat.pow_add]
      omega
/-- One sign more. -/
theorem jTo_or (L : List Nat) (k : Nat) (ok : ∀ j, j < k + 1 → B64.val (L.getD j 0) < 64) (hk : k < L.length) (h4 : k < 4) :
    bits .or .u32 ((jTo L k : Nat) : Int) (((B64.val (L.getD k 0) * 2 ^ (18 - 6 * k) : Nat)) : Int) = ((jTo L (k + 1) : Nat) : Int) := by
  obtain ⟨m, h1, h2⟩ := jTo_lt L k (fun j hj => ok j (by omega)) (by omega) (by omega)
  have hv := ok k (by omega)
  rw [jTo_next L k hk h4, h1]
  have hs : B64.val (L.getD k 0) * 2 ^ (18 - 6 * k) < 2 ^ (24 - 6 * k) := by
    have : 2 ^ (24 - 6 * k) = 64 * 2 ^ (18 - 6 * k) := by
      rw [show 24 - 6 * k = 6 + (18 - 6 * k) from by omega, Nat.pow_add]
    rw [this]
    exact Nat.mul_lt_mul_of_pos_right hv (Nat.two_pow_pos _)
  have hm : 2 ^ (24 - 6 * k) * m < 16777216 := by
    have : 2 ^ (24 - 6 * k) * 2 ^ (6 * k) = 16777216 := by rw [← Nat.pow_add, show 24 - 6 * k + 6 * k = 24 from by omega]
    rw [← this]
    exact Nat.mul_lt_mul_of_pos_left h2 (Nat.two_pow_pos _)
  have hle : (2 : Nat) ^ (24 - 6 * k) ≤ 2 ^ 24 := Nat.pow_le_pow_right (by decide) (by omega)
  rw [u32_or_nat _ _ (by omega) (by omega), or_add _ _ _ hs]
end Go.Proofs.Ytejjjhehfpeilaa
