/-
  The contract of the document's blanks.
-/
import Derived.Test.YtndkangfnojpoaaGreatDoorJSmall
namespace Go.Proofs.YtndkangfnojpoaaGreatDoor
open Go.RowKit

/-- What holds at each round of the loop. -/
def BlanksRel (S : List Nat) (i0 : Nat) (w : World) (i : Value) (wr : World) : Prop :=
  ∃ k : Nat, i = .int .i64 k ∧ k ≤ S.length ∧ past S k = past S i0 ∧ wr = w

set_option maxHeartbeats 2000000 in
set_option maxRecDepth 100000 in
theorem blanks_any (s : ByteArray) (i : Nat) (hi : i ≤ s.size) (hs : s.size ≤ 4611686018427387904) (w : World) :
    Calls Tryz.prog 29 #[.string s, .int .i64 i] w fun e w' => e = .returned (.int .i64 (past (numsOf s) i : Nat)) ∧ w = w' := by
  have Hlen := Lib.hid (numsOf_length s)
  go_enter Tryz.func29, Tryz.ntmps29
  go_wp2_with fail
  go_loopw [1] (fun i' wr => BlanksRel (numsOf s) i w i' wr) (fun i' _ => s.size - (intOf i').toNat)
  case atStart => exact ⟨i, rfl, by rw [Hlen.out]; exact hi, rfl, rfl⟩
  case round =>
    obtain ⟨k, rfl, hk, hp, rfl⟩ := hrel
    rw [Hlen.out] at hk
    have HP := Lib.hid hp
    clear hp
    have hA := fun w => at_any s k w
    obtain ⟨c, ec⟩ : ∃ c, (numsOf s).getD k 0 = c := ⟨_, rfl⟩
    have EC := Lib.hid ec
    rw [ec] at hA
    by_cases hb : Jq.blank c = true
    · have hb' : Jq.blank ((numsOf s).getD k 0) = true := by rw [ec]; exact hb
      obtain ⟨hlt, he⟩ := past_step hb'
      have HE := Lib.hid he
      rw [Hlen.out] at hlt
      have hc := (blank_iff c).1 hb
      clear hb hb' he ec EC
      rcases hc with rfl | rfl | rfl | rfl
      · go_wp2_with fail
        refine (hA _).mono ?_
        rintro e w' ⟨rfl, rfl⟩
        clear hA
        go_wp2
        go_roundw
        case rel => exact ⟨k + 1, by go_num, by rw [Hlen.out]; omega, by rw [← HE.out]; exact HP.out, rfl⟩
        case measure => simp [intOf]; omega
      · go_wp2_with fail
        refine (hA _).mono ?_
        rintro e w' ⟨rfl, rfl⟩
        go_wp2_with fail
        refine (hA _).mono ?_
        rintro e w' ⟨rfl, rfl⟩
        clear hA
        go_wp2
        go_roundw
        case rel => exact ⟨k + 1, by go_num, by rw [Hlen.out]; omega, by rw [← HE.out]; exact HP.out, rfl⟩
        case measure => simp [intOf]; omega
      · go_wp2_with fail
        refine (hA _).mono ?_
        rintro e w' ⟨rfl, rfl⟩
        go_wp2_with fail
        refine (hA _).mono ?_
        rintro e w' ⟨rfl, rfl⟩
        go_wp2_with fail
        refine (hA _).mono ?_
        rintro e w' ⟨rfl, rfl⟩
        clear hA
        go_wp2
        go_roundw
        case rel => exact ⟨k + 1, by go_num, by rw [Hlen.out]; omega, by rw [← HE.out]; exact HP.out, rfl⟩
        case measure => simp [intOf]; omega
      · go_wp2_with fail
        refine (hA _).mono ?_
        rintro e w' ⟨rfl, rfl⟩
        go_wp2_with fail
        refine (hA _).mono ?_
        rintro e w' ⟨rfl, rfl⟩
        go_wp2_with fail
        refine (hA _).mono ?_
        rintro e w' ⟨rfl, rfl⟩
        go_wp2_with fail
        refine (hA _).mono ?_
        rintro e w' ⟨rfl, rfl⟩
        clear hA
        go_wp2
        go_roundw
        case rel => exact ⟨k + 1, by go_num, by rw [Hlen.out]; omega, by rw [← HE.out]; exact HP.out, rfl⟩
        case measure => simp [intOf]; omega
    · have HE : Hid (past (numsOf s) k = k) := past_stop (by rw [Hlen.out]; exact hk) (by rw [ec]; simpa using hb)
      have hc : ¬ (c = 32 ∨ c = 9 ∨ c = 10 ∨ c = 13) := fun h => hb ((blank_iff c).2 h)
      have d1 : ((c : Int) == 32) = false := by rw [beq_eq_false_iff_ne]; omega
      have d2 : ((c : Int) == 9) = false := by rw [beq_eq_false_iff_ne]; omega
      have d3 : ((c : Int) == 10) = false := by rw [beq_eq_false_iff_ne]; omega
      have d4 : ((c : Int) == 13) = false := by rw [beq_eq_false_iff_ne]; omega
      clear hb hc ec EC
      go_wp2_with fail
      refine (hA _).mono ?_
      rintro e w' ⟨rfl, rfl⟩
      go_wp2_with fail
      refine (hA _).mono ?_
      rintro e w' ⟨rfl, rfl⟩
      go_wp2_with fail
      refine (hA _).mono ?_
      rintro e w' ⟨rfl, rfl⟩
      go_wp2_with fail
      refine (hA _).mono ?_
      rintro e w' ⟨rfl, rfl⟩
      clear hA
      go_wp2
      go_ret
      exact ⟨ret_int (by rw [← HP.out, HE.out]), rfl⟩
end Go.Proofs.YtndkangfnojpoaaGreatDoor
