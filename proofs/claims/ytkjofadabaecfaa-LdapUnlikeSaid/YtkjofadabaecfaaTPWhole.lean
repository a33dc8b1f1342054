/-
  The program's Whole.
-/
import Derived.Test.YtkjofadabaecfaaTPIns
namespace Go.Proofs.Ytkjofadabaecfaa
open Go.RowKit

/-- What holds at each round of Whole's loop. -/
def PWRel (Z : List Nat) (w : World) (n' bv : Value) (wr : World) : Prop :=
  ∃ (m : Nat) (r : List Nat), n' = .int .i64 m ∧ wr.ownsRow w.heap.size 5 1 bv (m % 256 :: r).length (u8s (m % 256 :: r)) ∧ (∀ x ∈ r, x < 256) ∧ r.length ≤ 3 ∧ m * 256 ^ r.length ≤ 2147483647 ∧ Below w.heap.size w wr ∧ (r = [] ∨ 127 < m * 256 + r.headD 0) ∧ Hid (Z = Bq.wholeF (6 - r.length) m r)

set_option maxHeartbeats 1000000 in
set_option maxRecDepth 100000 in
theorem whole_any (n : Int) (w : World) : Calls Try.prog 28 #[.int .i64 n] w (BytesEnd (Bq.whole n) w) := by
  by_cases hout : n < 0 ∨ 2147483647 < n
  · have HQ : Hid (Bq.whole n = []) := if_pos hout
    have hdd : decide (n < 0) = true ∨ (decide (n < 0) = false ∧ decide ((2147483647 : Int) < n) = true) := by
      by_cases h : n < 0
      · exact .inl (decide_eq_true h)
      · exact .inr ⟨decide_eq_false h, decide_eq_true (by omega)⟩
    clear hout
    rcases hdd with d1 | ⟨d1, d2⟩
    all_goals
      go_enter Try.func28, Try.ntmps28
      go_wp2
      go_ret
      rw [HQ.out]
      exact ⟨none, 0, rfl, ⟨Nat.le_refl _, by omega, (fun x h => nomatch h), fun h => absurd h (Nat.lt_irrefl _)⟩, Below.refl _ _⟩
  obtain ⟨N, rfl⟩ : ∃ N : Nat, n = (N : Int) := ⟨n.toNat, by omega⟩
  have hN : N ≤ 2147483647 := by omega
  obtain ⟨Z, eZ⟩ : ∃ Z, Bq.whole (N : Int) = Z := ⟨_, rfl⟩
  have hZ : Z = Bq.wholeF 6 N [] := by
    rw [← eZ]
    unfold Bq.whole
    rw [if_neg hout]
    rfl
  have HZ := Lib.hid hZ
  have HZ256 : Hid (∀ x ∈ Z, x < 256) := by unfold Hid; rw [← eZ]; exact Bq.whole_byte _
  rw [eZ]
  have d1 : decide ((N : Int) < 0) = false := decide_eq_false (by omega)
  have d2 : decide ((2147483647 : Int) < (N : Int)) = false := decide_eq_false (by omega)
  have HST : Hid (PWRel Z w (.int .i64 N) (.slice (some ⟨w.heap.size, 0, none⟩) 1 1) (w.alloc (.cells #[.int .u8 ((N : Int) % 256)] 5))) := by
    refine ⟨N, [], rfl, ?_, (fun x h => nomatch h), Nat.zero_le _, by simpa using hN, (Below.refl _ _).alloc (Nat.le_refl _) _, .inl rfl, HZ⟩
    have := own_new1 (W := w) (e := 5) (v := .int .u8 ((N : Int) % 256)) rfl (Nat.le_refl _)
    simpa [u8s] using this
  clear hout eZ hZ
  go_enter Try.func28, Try.ntmps28
  go_wp2_with fail
  go_loopw [0, 3] (fun n' bv wr => PWRel Z w n' bv wr) (fun n' _ _ => (intOf n').toNat)
  case atStart => exact HST.out
  case round =>
    obtain ⟨m, r, rfl, hown, h256, hal, hmb, hb, hr, hrel⟩ := hrel
    obtain ⟨A4, c4, rfl⟩ := own_slice hown
    have hwb : w.heap.size ≤ wr.heap.size := hb.size
    have hm31 : m ≤ 2147483647 := Nat.le_trans (Nat.le_mul_of_pos_right m (Nat.pow_pos (by decide))) hmb
    by_cases h128 : 127 < m
    · have hd : decide ((127 : Int) < (m : Int)) = true := decide_eq_true (by omega)
      have h3 : r.length ≠ 3 := fun e => by
        rw [e] at hmb
        simp at hmb
        omega
      have HW : Hid (Z = Bq.wholeF (6 - (m % 256 :: r).length) (m / 256) (m % 256 :: r)) := by
        unfold Hid
        rw [hrel.out, List.length_cons, show 6 - r.length = (6 - (r.length + 1)) + 1 from by omega, Bq.wholeF, if_neg (by omega)]
      have HMB2 : Hid (m / 256 * 256 ^ (m % 256 :: r).length ≤ 2147483647) := by
        unfold Hid
        rw [List.length_cons, Nat.pow_succ, ← Nat.mul_assoc, Nat.mul_right_comm]
        exact Nat.le_trans (Nat.mul_le_mul_right _ (Nat.div_mul_le_self m 256)) hmb
      have HHD : Hid (127 < m / 256 * 256 + (m % 256 :: r).headD 0) := by
        unfold Hid
        show 127 < m / 256 * 256 + m % 256
        omega
      obtain ⟨y, ey⟩ : ∃ y, m / 256 = y := ⟨_, rfl⟩
      have e1 : ((m : Int) / 256) = (y : Int) := by omega
      have H256 : Hid (∀ x ∈ m % 256 :: r, x < 256) := fun x hx => by
        rcases List.mem_cons.1 hx with rfl | hx
        · omega
        · exact h256 x hx
      obtain ⟨q, eq⟩ : ∃ q, m % 256 :: r = q := ⟨_, rfl⟩
      have hq4 : 0 < q.length ∧ q.length ≤ 3 := by rw [← eq, List.length_cons]; omega
      rw [eq] at hown HW HMB2 HHD H256 ⊢
      rw [ey] at HW HMB2 HHD
      obtain ⟨W1, eW1⟩ : ∃ W1, W1 = wr.alloc (.cells #[.int .u8 ((y : Int) % 256)] 5) := ⟨_, rfl⟩
      have hb1 : Below wr.heap.size wr W1 := by rw [eW1]; exact (Below.refl _ _).alloc (Nat.le_refl _) _
      have hl1 : Lies W1 wr.heap.size 5 [.int .u8 ((y % 256 : Nat) : Int)] := by rw [eW1]; exact Lies.new_ rfl
      have hown1 := own_below hown hb1
      have hI := insert_any w.heap.size _ q wr.heap.size (y % 256) W1 hown1 hq4.1 (by omega) hl1 (fun e => by have := (hown.lt _ e).2; omega)
      rw [eW1] at hI
      have HW1 := Lib.hid eW1
      have hlo : ∀ k, (Value.slice A4 q.length c4).ownBlock = some k → w.heap.size ≤ k := fun k e => (hown.lt k e).1
      have hbW1 := hb.trans (hb1.mono hwb)
      have HYM : Hid (y < m) := by unfold Hid; omega
      clear hown hown1 hb1 hl1 eW1 hmb hr hrel h256 eq ey
      go_wp2_with fail
      refine hI.mono ?_
      rintro e w2 ⟨v', rfl, hown2, hg2⟩
      rw [← HW1.out] at hg2
      clear hI
      have HRL : Hid (PWRel Z w (.int .i64 (y : Int)) v' w2) := ⟨y, q, rfl, hown2, H256.out, hq4.2, HMB2.out, hbW1.grown hg2 hbW1.size hlo, .inr HHD.out, HW⟩
      clear hown2 hg2 hlo hbW1 hq4
      go_wp2
      go_roundw
      case rel => exact HRL.out
      case measure => simp [intOf]; have := HYM.out; omega
    · have hd : decide ((127 : Int) < (m : Int)) = false := decide_eq_false (by omega)
      have HE : Hid (BytesEnd Z w (.returned (.slice A4 (m % 256 :: r).length c4)) wr) := by
        have hZ : Z = m % 256 :: r := by
          rw [hrel.out, show 6 - r.length = (5 - r.length) + 1 from by omega, Bq.wholeF, if_pos (by omega), if_pos, Nat.mod_eq_of_lt (by omega)]
          rcases hr with h | h
          · exact .inl h
          · rcases Nat.eq_zero_or_pos m with h0 | h0
            · subst h0
              exact .inr (.inr (by omega))
            · exact .inr (.inl h0)
        unfold Hid
        rw [hZ]
        exact ⟨_, _, rfl, (own_arg hown (fun x hx => by
          rcases List.mem_cons.1 hx with rfl | hx
          · omega
          · exact h256 x hx)).2, hb⟩
      clear hown h256 hmb hb hr hrel
      rw [List.length_cons] at HE ⊢
      go_wp2
      go_ret
      exact HE.out
end Go.Proofs.Ytkjofadabaecfaa
