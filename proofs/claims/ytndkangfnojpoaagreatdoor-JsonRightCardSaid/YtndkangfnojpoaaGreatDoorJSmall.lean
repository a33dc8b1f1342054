/-
  The contracts of the document's small functions over texts: at, digit, hex, blanks.
-/
import Derived.Test.YtndkangfnojpoaaGreatDoorQB
import Derived.Outline
namespace Go.Proofs.YtndkangfnojpoaaGreatDoor
open Go.RowKit

set_option maxHeartbeats 1000000 in
theorem at_any (s : ByteArray) (i : Nat) (w : World) :
    Calls Tryz.prog 38 #[.string s, .int .i64 i] w fun e w' => e = .returned (.int .u8 ((numsOf s).getD i 0 : Nat)) ∧ w = w' := by
  by_cases h : i < s.size
  · have HX := Lib.hid (nums_at s i h)
    have hd : decide ((i : Int) < (s.size : Int)) = true := decide_eq_true (by omega)
    go_enter Tryz.func38, Tryz.ntmps38
    go_wp2
    go_ret
    exact ⟨ret_int (by rw [HX.out]), rfl⟩
  · have HX := Lib.hid (nums_end s i (by omega))
    have hd : decide ((i : Int) < (s.size : Int)) = false := decide_eq_false (by omega)
    go_enter Tryz.func38, Tryz.ntmps38
    go_wp2
    go_ret
    exact ⟨ret_int (by rw [HX.out]; rfl), rfl⟩

set_option maxHeartbeats 1000000 in
theorem digit_any (c : Nat) (hc : c < 256) (w : World) :
    Calls Tryz.prog 41 #[.int .u8 c] w fun e w' => e = .returned (.bool (Jq.dig c)) ∧ w = w' := by
  go_enter Tryz.func41, Tryz.ntmps41
  go_wp2
  all_goals
    go_ret
    refine ⟨ret_bool ?_, rfl⟩
    rw [Bool.eq_iff_iff, Jq.dig_iff]
    simp
    omega

theorem hexv_le (c : Nat) : Jq.hexv c ≤ 16 := by
  unfold Jq.hexv
  split
  · omega
  · split
    · omega
    · split <;> omega
theorem hexv_cases (c : Nat) : (Jq.dig c = true ∧ 48 ≤ c ∧ c ≤ 57 ∧ Jq.hexv c = c - 48) ∨ (Jq.dig c = false ∧ 97 ≤ c ∧ c ≤ 102 ∧ Jq.hexv c = c - 87) ∨ (Jq.dig c = false ∧ 65 ≤ c ∧ c ≤ 70 ∧ Jq.hexv c = c - 55) ∨ (Jq.dig c = false ∧ ¬ (97 ≤ c ∧ c ≤ 102) ∧ ¬ (65 ≤ c ∧ c ≤ 70) ∧ Jq.hexv c = 16) := by
  unfold Jq.hexv
  by_cases h1 : 48 ≤ c ∧ c ≤ 57
  · exact .inl ⟨(Jq.dig_iff c).2 h1, h1.1, h1.2, by rw [if_pos h1]⟩
  have hd : Jq.dig c = false := by
    cases h : Jq.dig c with
    | false => rfl
    | true => exact absurd ((Jq.dig_iff c).1 h) h1
  by_cases h2 : 97 ≤ c ∧ c ≤ 102
  · exact .inr (.inl ⟨hd, h2.1, h2.2, by rw [if_neg h1, if_pos h2]⟩)
  by_cases h3 : 65 ≤ c ∧ c ≤ 70
  · exact .inr (.inr (.inl ⟨hd, h3.1, h3.2, by rw [if_neg h1, if_neg h2, if_pos h3]⟩))
  · exact .inr (.inr (.inr ⟨hd, h2, h3, by rw [if_neg h1, if_neg h2, if_neg h3]⟩))

set_option maxHeartbeats 1000000 in
theorem hex_any (c : Nat) (hc : c < 256) (w : World) :
    Calls Tryz.prog 98 #[.int .u8 c] w fun e w' => e = .returned (.int .i64 (Jq.hexv c : Nat)) ∧ w = w' := by
  have hD := fun w => digit_any c hc w
  rcases hexv_cases c with ⟨d, h1, h2, h3⟩ | ⟨d, h1, h2, h3⟩ | ⟨d, h1, h2, h3⟩ | ⟨d, h1, h2, h3⟩
  all_goals
    rw [d] at hD
    have H3 := Lib.hid h3
    clear h3 d
    go_enter Tryz.func98, Tryz.ntmps98
    go_wp2_with fail
    refine (hD _).mono ?_
    rintro e w' ⟨rfl, rfl⟩
    clear hD
    go_wp2
    all_goals first | omega | (go_ret; exact ⟨ret_int (by rw [H3.out]; omega), rfl⟩)

/-- The place behind blanks. -/
def past (S : List Nat) (i : Nat) : Nat := S.length - (Jq.skip (S.drop i)).length
theorem skip_drop (S : List Nat) (i : Nat) : Jq.skip (S.drop i) = S.drop (past S i) := by
  have h : ∃ k, Jq.skip (S.drop i) = S.drop k := by
    have := List.dropWhile_suffix (l := S.drop i) Jq.blank
    obtain ⟨t, ht⟩ := this
    refine ⟨i + t.length, ?_⟩
    rw [← List.drop_drop]
    show List.dropWhile Jq.blank (S.drop i) = _
    conv => rhs; rw [← ht]
    rw [List.drop_left]
  obtain ⟨k, hk⟩ := h
  rw [past, hk, List.length_drop]
  by_cases hle : k ≤ S.length
  · rw [show S.length - (S.length - k) = k from by omega]
  · rw [List.drop_eq_nil_of_le (by omega), List.drop_eq_nil_of_le (by omega)]
theorem past_stop {S : List Nat} {i : Nat} (hi : i ≤ S.length) (h : Jq.blank (S.getD i 0) = false) : past S i = i := by
  have : Jq.skip (S.drop i) = S.drop i := by
    rcases Nat.lt_or_eq_of_le hi with hlt | heq
    · rw [List.drop_eq_getElem_cons hlt]
      rw [List.getD_eq_getElem?_getD, List.getElem?_eq_getElem hlt] at h
      exact Jq.skip_sign h _
    · rw [List.drop_eq_nil_of_le (by omega)]; rfl
  rw [past, this, List.length_drop]
  omega
theorem past_step {S : List Nat} {i : Nat} (h : Jq.blank (S.getD i 0) = true) : i < S.length ∧ past S i = past S (i + 1) := by
  have hlt : i < S.length := by
    rcases Nat.lt_or_ge i S.length with h1 | h1
    · exact h1
    · rw [List.getD_eq_getElem?_getD, List.getElem?_eq_none h1] at h; cases h
  refine ⟨hlt, ?_⟩
  unfold past
  rw [List.drop_eq_getElem_cons hlt]
  rw [List.getD_eq_getElem?_getD, List.getElem?_eq_getElem hlt] at h
  have : Jq.skip (S[i] :: S.drop (i + 1)) = Jq.skip (S.drop (i + 1)) := by
    have h' : Jq.blank S[i] = true := h
    unfold Jq.skip
    rw [List.dropWhile_cons, if_pos h']
  rw [this]
theorem past_le (S : List Nat) (i : Nat) : past S i ≤ S.length := by unfold past; omega
theorem past_ge {S : List Nat} {i : Nat} (hi : i ≤ S.length) : i ≤ past S i := by
  unfold past
  have := Jq.skip_len (S.drop i)
  rw [List.length_drop] at this
  omega
theorem blank_iff (c : Nat) : Jq.blank c = true ↔ c = 32 ∨ c = 9 ∨ c = 10 ∨ c = 13 := by
  unfold Jq.blank
  simp [or_assoc]
end Go.Proofs.YtndkangfnojpoaaGreatDoor
