/-
  The contracts of the small functions over bytes: plain, digitValue, escaped, and the document's Plain and Hex.
-/
import Derived.Test.YtejmkijnngkoaaaDoorPMem
import Derived.Outline
namespace Go.Proofs.YtejmkijnngkoaaaDoor
open Go.RowKit

theorem ret_bool {a b : Bool} (h : a = b) : Ending.returned (.bool a) = .returned (.bool b) := by rw [h]

set_option maxHeartbeats 1000000 in
theorem plain_any (c : Nat) (hc : c < 256) (w : World) :
    Calls Tryd.prog 64 #[.int .u8 c] w fun e w' => e = .returned (.bool (Pq.pl c)) ∧ w = w' := by
  go_enter Tryd.func64, Tryd.ntmps64
  go_wp2
  all_goals
    go_ret
    refine ⟨ret_bool ?_, rfl⟩
    rw [Bool.eq_iff_iff, Pq.pl_iff]
    simp
    first | omega | (simp only [beq_iff_eq, beq_eq_false_iff_ne] at *; omega)

set_option maxHeartbeats 1000000 in
theorem refPlain_any (c : Nat) (hc : c < 256) (w : World) :
    Calls Tryd.prog 45 #[.int .u8 c] w fun e w' => e = .returned (.bool (Pq.pl c)) ∧ w = w' := by
  go_enter Tryd.func45, Tryd.ntmps45
  go_wp2
  all_goals
    go_ret
    refine ⟨ret_bool ?_, rfl⟩
    rw [Bool.eq_iff_iff, Pq.pl_iff]
    simp
    omega

theorem hv_cases {c : Nat} (h : Pq.hv c < 16) : (48 ≤ c ∧ c ≤ 57 ∧ Pq.hv c = c - 48) ∨ (65 ≤ c ∧ c ≤ 70 ∧ Pq.hv c = c - 55) ∨ (97 ≤ c ∧ c ≤ 102 ∧ Pq.hv c = c - 87) := by
  unfold Pq.hv at h ⊢
  split at h
  · rename_i h1; rw [if_pos h1]; omega
  · split at h
    · rename_i h1 h2; rw [if_neg h1, if_pos h2]; omega
    · split at h
      · rename_i h1 h2 h3; rw [if_neg h1, if_neg h2, if_pos h3]; omega
      · omega
theorem hv_none {c : Nat} (h : ¬ Pq.hv c < 16) : ¬ (48 ≤ c ∧ c ≤ 57) ∧ ¬ (65 ≤ c ∧ c ≤ 70) ∧ ¬ (97 ≤ c ∧ c ≤ 102) := by
  unfold Pq.hv at h
  split at h
  · omega
  · split at h
    · omega
    · split at h
      · omega
      · omega
theorem ret_u8 {a b : Int} {c : Bool} (h : a = b) : Ending.returned (.tuple #[.int .u8 a, .bool c]) = .returned (.tuple #[.int .u8 b, .bool c]) := by rw [h]

set_option maxHeartbeats 1000000 in
theorem digit_yes (c : Nat) (hc : c < 256) (h : Pq.hv c < 16) (w : World) :
    Calls Tryd.prog 85 #[.int .u8 c] w fun e w' => e = .returned (.tuple #[.int .u8 (Pq.hv c : Nat), .bool true]) ∧ w = w' := by
  rcases hv_cases h with ⟨h1, h2, h3⟩ | ⟨h1, h2, h3⟩ | ⟨h1, h2, h3⟩
  all_goals
    have H3 := Lib.hid h3
    clear h3 h
    go_enter Tryd.func85, Tryd.ntmps85
    go_wp2
    all_goals first | omega | (go_ret2; exact ⟨ret_u8 (by rw [H3.out]; omega), rfl⟩)
set_option maxHeartbeats 1000000 in
theorem digit_no (c : Nat) (hc : c < 256) (h : ¬ Pq.hv c < 16) (w : World) :
    Calls Tryd.prog 85 #[.int .u8 c] w fun e w' => e = .returned (.tuple #[.int .u8 0, .bool false]) ∧ w = w' := by
  obtain ⟨h1, h2, h3⟩ := hv_none h
  clear h
  go_enter Tryd.func85, Tryd.ntmps85
  go_wp2
  all_goals first | omega | (go_ret2; exact ⟨rfl, rfl⟩)
set_option maxHeartbeats 1000000 in
theorem refHex_any (c : Nat) (hc : c < 256) (w : World) :
    Calls Tryd.prog 62 #[.int .u8 c] w fun e w' => e = .returned (.int .u8 (Pq.hv c : Nat)) ∧ w = w' := by
  by_cases h : Pq.hv c < 16
  · rcases hv_cases h with ⟨h1, h2, h3⟩ | ⟨h1, h2, h3⟩ | ⟨h1, h2, h3⟩
    all_goals
      have H3 := Lib.hid h3
      clear h3 h
      go_enter Tryd.func62, Tryd.ntmps62
      go_wp2
      all_goals first | omega | (go_ret; exact ⟨ret_int (by rw [H3.out]; omega), rfl⟩)
  · obtain ⟨h1, h2, h3⟩ := hv_none h
    have H3 := Lib.hid (show Pq.hv c = 16 by have := Pq.hv_le c; omega)
    clear h
    go_enter Tryd.func62, Tryd.ntmps62
    go_wp2
    all_goals first | omega | (go_ret; exact ⟨ret_int (by rw [H3.out]; rfl), rfl⟩)
end Go.Proofs.YtejmkijnngkoaaaDoor
