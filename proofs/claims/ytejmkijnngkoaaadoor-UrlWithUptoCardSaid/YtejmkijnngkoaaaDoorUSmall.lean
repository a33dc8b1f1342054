/-
  The contracts of the small functions of addresses: upperDigit, escapeAhead, plain, and the document's upper.
-/
import Derived.Test.YtejmkijnngkoaaaDoorPEs
import Derived.Test.YtejmkijnngkoaaaDoorUM
namespace Go.Proofs.YtejmkijnngkoaaaDoor
open Go.RowKit

set_option maxHeartbeats 1000000 in
theorem upper_any (c : Nat) (hc : c < 256) (w : World) :
    Calls Tryd.prog 61 #[.int .u8 c] w fun e w' => e = .returned (.bool (Uq.up c)) ∧ w = w' := by
  go_enter Tryd.func61, Tryd.ntmps61
  go_wp2
  all_goals
    go_ret
    refine ⟨ret_bool ?_, rfl⟩
    rw [Bool.eq_iff_iff, Uq.up_iff]
    simp
    omega

theorem up_hv (c : Nat) : Uq.up c = true ↔ Pq.hv c < 16 ∧ c < 97 := by
  rw [Uq.up_iff]
  constructor
  · rintro (h | h)
    · have : Pq.hv c = c - 48 := by unfold Pq.hv; rw [if_pos h]
      omega
    · have : Pq.hv c = c - 55 := by unfold Pq.hv; rw [if_neg (by omega), if_pos h]
      omega
  · rintro ⟨h1, h2⟩
    rcases hv_cases h1 with h | h | h <;> omega

set_option maxHeartbeats 1000000 in
theorem refUpper_any (c : Nat) (hc : c < 256) (w : World) :
    Calls Tryd.prog 44 #[.int .u8 c] w fun e w' => e = .returned (.bool (Uq.up c)) ∧ w = w' := by
  have hH := refHex_any c hc w
  have HU := Lib.hid (up_hv c)
  have hle := Pq.hv_le c
  obtain ⟨v, ev⟩ : ∃ v, Pq.hv c = v := ⟨_, rfl⟩
  rw [ev] at hH HU hle
  clear ev
  go_enter Tryd.func44, Tryd.ntmps44
  go_wp2_with fail
  refine hH.mono ?_
  rintro e w' ⟨rfl, rfl⟩
  clear hH
  go_wp2
  all_goals
    go_ret
    refine ⟨ret_bool ?_, rfl⟩
    rw [Bool.eq_iff_iff, HU.out]
    simp
    omega

/-- Does a text begin with an escape? -/
def esc (S : List Nat) : Bool := decide (3 ≤ S.length) && (S.getD 0 0 == 37) && Uq.up (S.getD 1 0) && Uq.up (S.getD 2 0)
theorem esc_short {S : List Nat} (h : S.length < 3) : esc S = false := by
  unfold esc; rw [decide_eq_false (by omega)]; rfl
theorem esc_other {S : List Nat} (h : S.getD 0 0 ≠ 37) : esc S = false := by
  unfold esc; rw [beq_eq_false_iff_ne.2 h]; simp
theorem esc_of {S : List Nat} (h : 3 ≤ S.length) (h0 : S.getD 0 0 = 37) : esc S = (Uq.up (S.getD 1 0) && Uq.up (S.getD 2 0)) := by
  unfold esc; rw [decide_eq_true h, beq_iff_eq.2 h0]; simp

set_option maxHeartbeats 1000000 in
theorem escapeAhead_any (s : ByteArray) (hs : s.size ≤ 140737488355328) (w : World) :
    Calls Tryd.prog 40 #[.string s] w fun e w' => e = .returned (.bool (esc (numsOf s))) ∧ w = w' := by
  have Hlen := Lib.hid (numsOf_length s)
  by_cases h3 : 3 ≤ s.size
  · have h0 : 0 < s.size := by omega
    have h1 : 1 < s.size := by omega
    have h2 : 2 < s.size := by omega
    have hd : decide ((3 : Int) ≤ (s.size : Int)) = true := decide_eq_true (by omega)
    have X0 := Lib.hid (nums_at s 0 h0)
    have X1 := Lib.hid (nums_at s 1 h1)
    have X2 := Lib.hid (nums_at s 2 h2)
    by_cases hc : s[0].toNat = 37
    · have hd2 : ((s[0].toNat : Int) == 37) = true := by rw [beq_iff_eq]; omega
      have HE : Hid (esc (numsOf s) = (Uq.up s[1].toNat && Uq.up s[2].toNat)) := by
        unfold Hid
        rw [← X1.out, ← X2.out]
        exact esc_of (by rw [Hlen.out]; exact h3) (by rw [X0.out]; exact hc)
      clear hc
      have c1 := fun w => upper_any s[1].toNat s[1].toNat_lt w
      have c2 := fun w => upper_any s[2].toNat s[2].toNat_lt w
      cases hu : Uq.up s[1].toNat with
      | true =>
        rw [hu] at c1 HE
        obtain ⟨b, eb⟩ : ∃ b, Uq.up s[2].toNat = b := ⟨_, rfl⟩
        rw [eb] at c2 HE
        clear hu eb
        go_enter Tryd.func40, Tryd.ntmps40
        go_wp2_with fail
        refine (c1 _).mono ?_
        rintro e w' ⟨rfl, rfl⟩
        go_wp2_with fail
        refine (c2 _).mono ?_
        rintro e w' ⟨rfl, rfl⟩
        clear c1 c2
        go_wp2
        go_ret
        exact ⟨ret_bool (by rw [HE.out]; simp), rfl⟩
      | false =>
        rw [hu] at c1 HE
        clear hu c2
        go_enter Tryd.func40, Tryd.ntmps40
        go_wp2_with fail
        refine (c1 _).mono ?_
        rintro e w' ⟨rfl, rfl⟩
        clear c1
        go_wp2
        go_ret
        exact ⟨ret_bool (by rw [HE.out]; simp), rfl⟩
    · have hd2 : ((s[0].toNat : Int) == 37) = false := by rw [beq_eq_false_iff_ne]; omega
      have HE : Hid (esc (numsOf s) = false) := esc_other (by rw [X0.out]; exact hc)
      clear hc
      go_enter Tryd.func40, Tryd.ntmps40
      go_wp2
      go_ret
      exact ⟨ret_bool (by rw [HE.out]), rfl⟩
  · have hd : decide ((3 : Int) ≤ (s.size : Int)) = false := decide_eq_false (by omega)
    have HE : Hid (esc (numsOf s) = false) := esc_short (by rw [Hlen.out]; omega)
    go_enter Tryd.func40, Tryd.ntmps40
    go_wp2
    go_ret
    exact ⟨ret_bool (by rw [HE.out]), rfl⟩

theorem e1_self (c : Nat) : (Pq.e1 c = [c]) ↔ Pq.pl c = true := by
  unfold Pq.e1
  cases Pq.pl c <;> simp

set_option maxHeartbeats 1000000 in
theorem urlPlain_any (s : ByteArray) (c : Nat) (hc : c < 256) (hs : numsOf s = [c]) (w : World) :
    Calls Tryd.prog 39 #[.string s] w fun e w' => e = .returned (.bool (Pq.pl c)) ∧ Below w.heap.size w w' := by
  have e1 : strOf [c] = s := by rw [← hs, strOf_numsOf]
  have hE := fun w => escape_any s w (by have := numsOf_length s; rw [hs] at this; simp at this; omega)
  rw [hs, Pq.es_one] at hE
  have HB : Hid (((strOf (Pq.e1 c)).toList == s.toList) = Pq.pl c) := by
    unfold Hid
    rw [← e1, str_beq (Pq.e1_lt hc) (fun x hx => by simp at hx; omega), Bool.eq_iff_iff, decide_eq_true_iff]
    exact e1_self c
  obtain ⟨E, eE⟩ : ∃ E, strOf (Pq.e1 c) = E := ⟨_, rfl⟩
  rw [eE] at hE HB
  clear eE e1 hs
  go_enter Tryd.func39, Tryd.ntmps39
  go_wp2_with fail
  refine (hE _).mono ?_
  rintro e w' ⟨rfl, hb⟩
  clear hE
  go_wp2
  go_ret
  exact ⟨ret_bool (by rw [HB.out]), hb⟩
end Go.Proofs.YtejmkijnngkoaaaDoor
