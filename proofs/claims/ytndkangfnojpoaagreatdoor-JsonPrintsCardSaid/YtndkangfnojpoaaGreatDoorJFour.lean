/-
  The contracts of the document's four and Write.
-/
import Derived.Test.YtndkangfnojpoaaGreatDoorJBlanks
import Derived.Test.YtndkangfnojpoaaGreatDoorQC
namespace Go.Proofs.YtndkangfnojpoaaGreatDoor
open Go.RowKit

/-- A number, or one below 0 where there is none. -/
def orLess : Option Nat → Int
  | none => -1
  | some n => n

/-- What holds at each round of four's loop. -/
def FourRel (S : List Nat) (i : Nat) (w : World) (n' k' : Value) (wr : World) : Prop :=
  ∃ k : Nat, k' = .int .i64 k ∧ k ≤ 4 ∧ n' = .int .i64 (hexN S i k : Nat) ∧ (∀ j, j < k → Jq.hexv (S.getD (i + j) 0) < 16) ∧ hexN S i k ≤ 65535 ∧ wr = w

set_option maxHeartbeats 2000000 in
set_option maxRecDepth 100000 in
theorem four_any (s : ByteArray) (i : Nat) (hi : i ≤ 4611686018427387904) (w : World) :
    Calls Tryz.prog 86 #[.string s, .int .i64 i] w fun e w' => e = .returned (.int .i64 (orLess (Jq.four ((numsOf s).drop i)))) ∧ w = w' := by
  go_enter Tryz.func86, Tryz.ntmps86
  go_wp2_with fail
  go_loopw [5, 6] (fun n' k' wr => FourRel (numsOf s) i w n' k' wr) (fun _ k' _ => 4 - (intOf k').toNat)
  case atStart => exact ⟨0, rfl, by omega, rfl, (fun j hj => by omega), Nat.zero_le _, rfl⟩
  case round =>
    obtain ⟨k, rfl, hk, rfl, hj, hn, rfl⟩ := hrel
    by_cases h4 : k < 4
    · have hd : decide ((k : Int) < 4) = true := decide_eq_true (by omega)
      have hA := fun w => at_any s (i + k) w
      have hlt := nums_lt s (i + k)
      obtain ⟨c, ec⟩ : ∃ c, (numsOf s).getD (i + k) 0 = c := ⟨_, rfl⟩
      rw [ec] at hA hlt
      have hH := fun w => hex_any c hlt w
      have hle := hexv_le c
      obtain ⟨v, ev⟩ : ∃ v, Jq.hexv c = v := ⟨_, rfl⟩
      rw [ev] at hH hle
      obtain ⟨N, eN⟩ : ∃ N, hexN (numsOf s) i k = N := ⟨_, rfl⟩
      have EN := Lib.hid eN
      rw [eN] at hn ⊢
      have EV : Hid (Jq.hexv ((numsOf s).getD (i + k) 0) = v) := by unfold Hid; rw [ec, ev]
      have HJ := Lib.hid hj
      clear ec ev eN hj
      by_cases h16 : v < 16
      · have d16 : ((v : Int) == 16) = false := by rw [beq_eq_false_iff_ne]; omega
        repeat ((fail_if_success (with_reducible show wpList _ _ _ (⟨some 16, _, _, _, _, _⟩ :: _) _ _)); first | go_values | go_skip | go_guarded | go_step | go_upon | go_back | go_simp)
        try rw [show ((i : Int) + (k : Int)) = ((i + k : Nat) : Int) from by omega]
        go_wp2_with fail
        refine (hA _).mono ?_
        rintro e w' ⟨rfl, rfl⟩
        go_wp2_with fail
        refine (hH _).mono ?_
        rintro e w' ⟨rfl, rfl⟩
        clear hA hH
        go_wp2
        go_roundw
        case rel =>
          have HJ2 : ∀ j, j < k + 1 → Jq.hexv ((numsOf s).getD (i + j) 0) < 16 := fun j hj => by
            rcases Nat.lt_or_eq_of_le (Nat.le_of_lt_succ hj) with h | h
            · exact HJ.out j h
            · rw [h, EV.out]; exact h16
          have e1 : hexN (numsOf s) i (k + 1) = N * 16 + v := by rw [hexN, EN.out, EV.out]
          have e2 : hexN (numsOf s) i (k + 1) ≤ 65535 := by
            have := hexN_lt (k + 1) HJ2
            have h3 : 16 ^ (k + 1) ≤ 16 ^ 4 := Nat.pow_le_pow_right (by omega) (by omega)
            have h5 : 16 ^ 4 = 65536 := by decide
            omega
          exact ⟨k + 1, by go_num, by omega, by rw [e1]; go_num, HJ2, e2, rfl⟩
        case measure => simp [intOf]; omega
      · have d16 : ((v : Int) == 16) = true := by rw [beq_iff_eq]; omega
        have HR : Hid (Jq.four ((numsOf s).drop i) = none) := four_no h4 (by rw [EV.out]; exact h16)
        repeat ((fail_if_success (with_reducible show wpList _ _ _ (⟨some 16, _, _, _, _, _⟩ :: _) _ _)); first | go_values | go_skip | go_guarded | go_step | go_upon | go_back | go_simp)
        try rw [show ((i : Int) + (k : Int)) = ((i + k : Nat) : Int) from by omega]
        go_wp2_with fail
        refine (hA _).mono ?_
        rintro e w' ⟨rfl, rfl⟩
        go_wp2_with fail
        refine (hH _).mono ?_
        rintro e w' ⟨rfl, rfl⟩
        clear hA hH
        go_wp2
        go_ret
        exact ⟨ret_int (by rw [HR.out]; rfl), rfl⟩
    · obtain rfl : k = 4 := by omega
      have HR : Hid (Jq.four ((numsOf s).drop i) = some (hexN (numsOf s) i 4)) := four_yes hj
      have hd : decide ((4 : Int) < 4) = false := by decide
      clear hj
      go_wp2
      go_ret
      exact ⟨ret_int (by rw [HR.out]; rfl), rfl⟩
end Go.Proofs.YtndkangfnojpoaaGreatDoor
