/-
  The contract of the document's Challenge.
-/
import Derived.Test.YtgojpcoaahcbeaaGreatDoorWChal
namespace Go.Proofs.YtgojpcoaahcbeaaGreatDoor
open Go.RowKit

set_option maxHeartbeats 1000000 in
set_option maxRecDepth 100000 in
theorem refChallenge_any (s : ByteArray) (w : World) :
    Calls Tryz.prog 20 #[.string s] w (ChalEnd (numsOf s) w) := by
  have Hlen := Lib.hid (numsOf_length s)
  by_cases h1 : s.size < 43
  · have hd : decide ((s.size : Int) < 43) = true := decide_eq_true (by omega)
    have HE : Hid (ChalEnd (numsOf s) w (.returned (.tuple #[.string ByteArray.empty, .bool false])) w) := ⟨Below.refl _ _, .inr ⟨fun h => absurd h.1 (by rw [Hlen.out]; omega), rfl⟩⟩
    go_enter Tryz.func20, Tryz.ntmps20
    go_wp2
    go_ret2
    exact HE.out
  have hd1 : decide ((s.size : Int) < 43) = false := decide_eq_false (by omega)
  by_cases h2 : 128 < s.size
  · have hd : decide ((128 : Int) < (s.size : Int)) = true := decide_eq_true (by omega)
    have HE : Hid (ChalEnd (numsOf s) w (.returned (.tuple #[.string ByteArray.empty, .bool false])) w) := ⟨Below.refl _ _, .inr ⟨fun h => absurd h.2.1 (by rw [Hlen.out]; omega), rfl⟩⟩
    go_enter Tryz.func20, Tryz.ntmps20
    go_wp2
    go_ret2
    exact HE.out
  have hd2 : decide ((128 : Int) < (s.size : Int)) = false := decide_eq_false (by omega)
  go_enter Tryz.func20, Tryz.ntmps20
  go_wp2_with fail
  go_loop [4] (fun i => ∃ k : Nat, i = .int .i64 k ∧ k ≤ s.size ∧ Hid (∀ j, j < k → Pq.pl ((numsOf s).getD j 0) = true)) (fun i => s.size - (intOf i).toNat)
  case atStart => exact ⟨0, rfl, Nat.zero_le _, fun j hj => by omega⟩
  case round =>
    obtain ⟨k, rfl, hk, Hno⟩ := hrel
    by_cases hlt : k < s.size
    · have hX := Lib.hid (nums_at s k hlt)
      have HP := Lib.hid (fun W => refPlain_any s[k].toNat (UInt8.toNat_lt _) W)
      by_cases hp : Pq.pl s[k].toNat = true
      · have HC : Hid (∀ j, j < k + 1 → Pq.pl ((numsOf s).getD j 0) = true) := fun j hj => by
          rcases Nat.lt_or_eq_of_le (Nat.le_of_lt_succ hj) with h | h
          · exact Hno.out j h
          · rw [h, hX.out]; exact hp
        go_wp2_with fail
        refine (HP.out _).mono ?_
        rintro e w1 ⟨rfl, hw⟩
        subst hw
        clear HP
        go_wp2
        go_round
        case rel => exact ⟨k + 1, by go_num, by omega, HC⟩
        case measure => simp [intOf]; omega
      · have hpf : Pq.pl s[k].toNat = false := by simpa using hp
        have HE : Hid (ChalEnd (numsOf s) w (.returned (.tuple #[.string ByteArray.empty, .bool false])) w) := ⟨Below.refl _ _, .inr ⟨fun h => hp (by
          have := h.2.2 _ (getD_mem'' (S := numsOf s) (k := k) (by rw [Hlen.out]; exact hlt))
          rwa [hX.out] at this), rfl⟩⟩
        clear hp
        go_wp2_with fail
        refine (HP.out _).mono ?_
        rintro e w1 ⟨rfl, hw⟩
        subst hw
        clear HP
        go_wp2
        go_ret2
        exact HE.out
    · obtain rfl : k = s.size := by omega
      have hdl : decide ((s.size : Int) < (s.size : Int)) = false := by simp
      have HC : Hid (Wq.ChalOk (numsOf s)) := ⟨by rw [Hlen.out]; omega, by rw [Hlen.out]; omega, mem_getD (P := fun c => Pq.pl c = true) fun j hj => Hno.out j (by rwa [Hlen.out] at hj)⟩
      clear Hno
      have hz := zero25
      repeat ((fail_if_success (with_reducible show wpList _ _ _ (⟨some 26, _, _, _, _, _⟩ :: _) _ _)); first | go_values | go_skip | go_guarded | go_step | go_upon | go_back | go_simp)
      with_reducible refine conv_here rfl (.tmp 25) rfl s ?s1 ?s2 ?_
      case s1 => rfl
      case s2 => omega
      intro w2 A c harg hbw2
      have hS := refSum_any (numsOf s) A c w2 harg (by rw [Hlen.out]; omega)
      rw [Hlen.out] at hS
      clear harg
      go_frame
      go_wp2_with fail
      refine hS.mono ?_
      rintro e w7 ⟨rfl, hb7⟩
      clear hS
      have hbw7 := below_more hbw2 hb7
      have Hl32 : Hid ((Sha.sum (numsOf s)).length = 32) := Sha.sum_length _
      have Hlt : Hid (∀ x ∈ Sha.sum (numsOf s), x < 256) := Sha.sum_lt _
      have HEnd : Hid (∀ w', Below w.heap.size w w' → ChalEnd (numsOf s) w (.returned (.tuple #[.string (strOf (B64.enc (Sha.sum (numsOf s)))), .bool true])) w') := fun w' h => ⟨h, .inl ⟨HC.out, rfl⟩⟩
      obtain ⟨D, hDe⟩ : ∃ D, Sha.sum (numsOf s) = D := ⟨_, rfl⟩
      rw [hDe] at Hl32 Hlt HEnd ⊢
      have Hone : Hid ((u8s D).all (·.oneCell') = true) := List.all_eq_true.2 (u8s_one _)
      clear hDe hb7 hbw2
      repeat ((fail_if_success (with_reducible show wpList _ _ _ (⟨none, _, _, _, _, _⟩ :: _) _ _)); first | go_values | go_skip | go_guarded | go_step | go_upon | go_back | go_simp)
      with_reducible refine store_lies rfl 51 (.tmp 5) (.tmp 27) rfl w7.heap.size (u8s D) 51 (z8 32) (Lies.new_ rfl) ?sx ?sy ?si ?sl ?so ?_
      case sx => rfl
      case sy => rfl
      case si => (rw [z8_length]; exact info25)
      case sl => rw [u8s_length, Hl32.out, z8_length]
      case so => exact Hone.out
      generalize hw8 : World.setRow _ _ _ = w8
      have hD8 : Lies w8 w7.heap.size 51 (u8s D) := by rw [← hw8]; exact Lies.row (cs := z8 32) (Lies.new_ rfl)
      have hb8 : Below w.heap.size w w8 := by rw [← hw8]; exact below_row (hbw7.alloc hbw7.size _) hbw7.size
      clear hw8 hz hbw7
      have hB := refBytes_any D w8 Hl32.out Hlt.out
      go_frame
      repeat ((fail_if_success (with_reducible show wpList _ _ _ (⟨some 28, _, _, _, _, _⟩ :: _) _ _)); first | go_values | go_skip | go_guarded | go_step | go_upon | go_back | go_simp)
      with_reducible refine load_lies rfl 51 (.tmp 5) rfl w7.heap.size 51 (u8s D) _ hD8 ?hx Tryz.underlying51 ?hd ?hi ?_
      case hx => rfl
      case hd => rfl
      case hi => (rw [u8s_length, Hl32.out]; exact info25)
      clear hD8
      go_frame
      go_wp2_with fail
      refine hB.mono ?_
      rintro e w9 ⟨v, rfl, hown, hb9⟩
      have hbw9 := below_more hb8 hb9
      obtain ⟨A3, c3, rfl⟩ := own_slice hown
      obtain ⟨_, hA3⟩ := own_arg hown Hlt.out
      have hE := refEncode_any D A3 c3 w9 hA3 (by rw [Hl32.out]; decide)
      rw [Hl32.out] at hE
      clear hB hb8 hb9 hown hA3
      go_wp2_with fail
      refine hE.mono ?_
      rintro e w10 ⟨rfl, hb10⟩
      clear hE
      have HE := Lib.hid (HEnd.out w10 (below_more hbw9 hb10))
      clear hbw9 hb10 HEnd
      go_wp2
      go_ret2
      exact HE.out
end Go.Proofs.YtgojpcoaahcbeaaGreatDoor
