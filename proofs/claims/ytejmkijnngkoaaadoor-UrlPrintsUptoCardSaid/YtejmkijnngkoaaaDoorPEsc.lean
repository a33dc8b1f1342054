/-
  The contract of escaped.
-/
import Derived.Test.YtejmkijnngkoaaaDoorPSmall
import Derived.Laws.BitsAllLaws
namespace Go.Proofs.YtejmkijnngkoaaaDoor
open Go.RowKit

theorem or_hex : ∀ a : Nat, a < 16 → ∀ b : Nat, b < 16 → bits .or .u8 ((a : Int) * 16) (b : Int) = ((a * 16 + b : Nat) : Int) := by
  intro a ha b hb
  have e : ((a : Int) * 16) = ((a * 16 : Nat) : Int) := by omega
  rw [e, u8_or_nat _ _ (by omega) (by omega), show a * 16 = 2 ^ 4 * a from by omega, ← Nat.two_pow_add_eq_or_of_lt (by omega : b < 2 ^ 4)]

set_option maxHeartbeats 400000 in
theorem escaped_yes (s : ByteArray) (h1 : 1 < s.size) (ha : Pq.hv s[0].toNat < 16) (hb : Pq.hv s[1].toNat < 16) (w : World) :
    Calls Tryd.prog 74 #[.string s] w fun e w' => e = .returned (.tuple #[.int .u8 (Pq.hv s[0].toNat * 16 + Pq.hv s[1].toNat : Nat), .bool true]) ∧ w = w' := by
  have h0 : 0 < s.size := by omega
  have c0 : ∀ w, Calls Tryd.prog 85 #[.int .u8 s[0].toNat] w fun e w' => e = .returned (.tuple #[.int .u8 (Pq.hv s[0].toNat : Nat), .bool true]) ∧ w = w' := fun w => digit_yes _ s[0].toNat_lt ha w
  have c1 : ∀ w, Calls Tryd.prog 85 #[.int .u8 s[1].toNat] w fun e w' => e = .returned (.tuple #[.int .u8 (Pq.hv s[1].toNat : Nat), .bool true]) ∧ w = w' := fun w => digit_yes _ s[1].toNat_lt hb w
  have HO := Lib.hid (or_hex _ ha _ hb)
  obtain ⟨a, ea⟩ : ∃ a, Pq.hv s[0].toNat = a := ⟨_, rfl⟩
  obtain ⟨b, eb⟩ : ∃ b, Pq.hv s[1].toNat = b := ⟨_, rfl⟩
  rw [ea] at c0 HO ha ⊢
  rw [eb] at c1 HO hb ⊢
  clear ea eb
  go_enter Tryd.func74, Tryd.ntmps74
  go_wp2_with fail
  refine (c0 _).mono ?_
  rintro e w' ⟨rfl, rfl⟩
  go_wp2_with fail
  refine (c1 _).mono ?_
  rintro e w' ⟨rfl, rfl⟩
  clear c0 c1
  go_wp2
  go_ret2
  exact ⟨ret_u8 HO.out, rfl⟩

set_option maxHeartbeats 400000 in
theorem escaped_no (s : ByteArray) (hs : s.size ≤ 140737488355328) (h : ∀ h1 : 1 < s.size, ¬ (Pq.hv s[0].toNat < 16 ∧ Pq.hv s[1].toNat < 16)) (w : World) :
    Calls Tryd.prog 74 #[.string s] w fun e w' => e = .returned (.tuple #[.int .u8 0, .bool false]) ∧ w = w' := by
  by_cases h1 : 1 < s.size
  · have h0 : 0 < s.size := by omega
    have hn := h h1
    clear h
    by_cases ha : Pq.hv s[0].toNat < 16
    · have hb : ¬ Pq.hv s[1].toNat < 16 := fun hb => hn ⟨ha, hb⟩
      have c0 : ∀ w, Calls Tryd.prog 85 #[.int .u8 s[0].toNat] w fun e w' => e = .returned (.tuple #[.int .u8 (Pq.hv s[0].toNat : Nat), .bool true]) ∧ w = w' := fun w => digit_yes _ s[0].toNat_lt ha w
      have c1 : ∀ w, Calls Tryd.prog 85 #[.int .u8 s[1].toNat] w fun e w' => e = .returned (.tuple #[.int .u8 0, .bool false]) ∧ w = w' := fun w => digit_no _ s[1].toNat_lt hb w
      clear hn hb
      obtain ⟨a, ea⟩ : ∃ a, Pq.hv s[0].toNat = a := ⟨_, rfl⟩
      rw [ea] at c0 ha
      clear ea
      go_enter Tryd.func74, Tryd.ntmps74
      go_wp2_with fail
      refine (c0 _).mono ?_
      rintro e w' ⟨rfl, rfl⟩
      go_wp2_with fail
      refine (c1 _).mono ?_
      rintro e w' ⟨rfl, rfl⟩
      clear c0 c1
      go_wp2
      go_ret2
      exact ⟨rfl, rfl⟩
    · have c0 : ∀ w, Calls Tryd.prog 85 #[.int .u8 s[0].toNat] w fun e w' => e = .returned (.tuple #[.int .u8 0, .bool false]) ∧ w = w' := fun w => digit_no _ s[0].toNat_lt ha w
      clear hn ha
      go_enter Tryd.func74, Tryd.ntmps74
      go_wp2_with fail
      refine (c0 _).mono ?_
      rintro e w' ⟨rfl, rfl⟩
      clear c0
      go_wp2
      go_ret2
      exact ⟨rfl, rfl⟩
  · have hd : decide ((s.size : Int) < 2) = true := decide_eq_true (by omega)
    clear h
    go_enter Tryd.func74, Tryd.ntmps74
    go_wp2
    go_ret2
    exact ⟨rfl, rfl⟩
end Go.Proofs.YtejmkijnngkoaaaDoor
