/-
  The contracts of the document's own Signs and Value.
-/
import Derived.Test.YtejjjhehfpeilaaBOwn
import Derived.Test.YtejjjhehfpeilaaBBits
namespace Go.Proofs.Ytejjjhehfpeilaa
open Go.RowKit

theorem sign_run_i (n : Nat) (h : n < 64) (w : World) : (Instr.index 9 (.string signsB) (.int .i64 (n : Int))).run Try.prog w = .ok (.int .u8 (B64.sign n : Nat)) w := by
  have hs : signsB.size = 64 := rfl
  rw [run_index_string w 9 signsB .i64 (n : Int) Try.underlying9, dif_pos ⟨by omega, by rw [hs]; omega⟩]
  have hg := signs_get n h
  have hn : n < signsB.data.toList.length := h
  rw [List.getElem?_eq_getElem hn] at hg
  have hg' : (signsB.data.toList[n]).toNat = B64.sign n := by simpa using hg
  rw [← hg']
  rfl

/-- A text that holds the signs. -/
def IsSigns (S : ByteArray) : Prop := S = signsB
theorem IsSigns.run {S : ByteArray} (h : IsSigns S) (n : Nat) (hn : n < 64) (w : World) : (Instr.index 9 (.string S) (.int .i64 (n : Int))).run Try.prog w = .ok (.int .u8 (B64.sign n : Nat)) w := by
  rw [h]; exact sign_run_i n hn w

set_option maxHeartbeats 400000 in
theorem signs_any (w : World) : Calls Try.prog 17 #[] w fun e w' => (∃ S, IsSigns S ∧ e = .returned (.string S)) ∧ w = w' := by
  go_enter Try.func17, Try.ntmps17
  go_wp2
  go_ret
  exact ⟨⟨_, rfl, rfl⟩, rfl⟩

theorem val_first (c k : Nat) (hk : k < 64) (he : B64.sign k = c) : B64.val c = k := by
  rw [← he, B64.val_sign k hk]
theorem val_none (c : Nat) (h : ∀ j, j < 64 → B64.sign j ≠ c) : B64.val c = 64 := by
  rcases Nat.lt_or_eq_of_le (B64.val_le c) with hlt | he
  · exact absurd (B64.sign_val c hlt) (h _ hlt)
  · exact he

set_option maxHeartbeats 400000 in
theorem value_any (c : Nat) (w : World) :
    Calls Try.prog 21 #[.int .u8 c] w fun e w' => e = .returned (.int .i64 (B64.val c : Nat)) ∧ w = w' := by
  go_enter Try.func21, Try.ntmps21
  go_wp2_with fail
  refine (signs_any w).mono ?_
  rintro e w' ⟨⟨S, hS, rfl⟩, rfl⟩
  go_wp2_with fail
  go_loop [4] (fun i => ∃ k : Nat, k ≤ 64 ∧ i = .int .i64 k ∧ ∀ j, j < k → B64.sign j ≠ c) (fun i => 64 - (intOf i).toNat)
  case atStart => exact ⟨0, Nat.zero_le _, rfl, fun j hj => by omega⟩
  case round =>
    obtain ⟨k, hk, rfl, hno⟩ := hrel
    have Hno := Lib.hid hno
    clear hno
    by_cases hlt : k < 64
    · have hix := hS.run k hlt
      have hs := B64.sign_lt k
      by_cases he : B64.sign k = c
      · have hd : (((B64.sign k : Nat) : Int) == (c : Int)) = true := by rw [beq_iff_eq]; omega
        have HV := Lib.hid (val_first c k hlt he)
        clear he
        go_wp2
        go_ret
        exact ⟨ret_int (by rw [HV.out]), rfl⟩
      · have hd : (((B64.sign k : Nat) : Int) == (c : Int)) = false := by rw [beq_eq_false_iff_ne]; omega
        have He := Lib.hid he
        clear he
        go_wp2
        go_round
        case rel =>
          refine ⟨k + 1, by omega, by go_num, fun j hj => ?_⟩
          rcases Nat.lt_or_eq_of_le (Nat.le_of_lt_succ hj) with h | h
          · exact Hno.out j h
          · rw [h]; exact He.out
        case measure => simp [intOf]; omega
    · obtain rfl : k = 64 := by omega
      have HV := Lib.hid (val_none c Hno.out)
      have hd : decide (((64 : Nat) : Int) < 64) = false := by decide
      go_wp2
      go_ret
      exact ⟨ret_int (by rw [HV.out]; rfl), rfl⟩
end Go.Proofs.Ytejjjhehfpeilaa
