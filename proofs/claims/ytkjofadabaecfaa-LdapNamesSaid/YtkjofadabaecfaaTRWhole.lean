/-
  The document's Whole and Number.
-/
import Derived.Test.YtkjofadabaecfaaTRWrite
import Derived.Test.YtkjofadabaecfaaTN
import Derived.Test.YtkjofadabaecfaaTRSized
namespace Go.Proofs.Ytkjofadabaecfaa
open Go.RowKit

/-- What holds at each round of Whole's loop. -/
def WhRel (Z : List Nat) (w : World) (n' ov : Value) (wr : World) : Prop :=
  ∃ (m : Nat) (acc : List Nat), n' = .int .i64 m ∧ wr.ownsRow w.heap.size 5 1 ov acc.length (u8s acc) ∧ (∀ x ∈ acc, x < 256) ∧ acc.length ≤ 3 ∧ m * 256 ^ acc.length ≤ 2147483647 ∧ Below w.heap.size w wr ∧ Hid (Z = Bq.wholeF (6 - acc.length) m acc)

set_option maxHeartbeats 1000000 in
set_option maxRecDepth 100000 in
theorem refWhole_any (n : Int) (w : World) : Calls Try.prog 30 #[.int .i64 n] w (BytesEnd (Bq.whole n) w) := by
  by_cases hout : n < 0 ∨ 2147483647 < n
  · have HQ : Hid (Bq.whole n = []) := if_pos hout
    have hdd : decide (n < 0) = true ∨ (decide (n < 0) = false ∧ decide ((2147483647 : Int) < n) = true) := by
      by_cases h : n < 0
      · exact .inl (decide_eq_true h)
      · exact .inr ⟨decide_eq_false h, decide_eq_true (by omega)⟩
    clear hout
    rcases hdd with d1 | ⟨d1, d2⟩
    all_goals
      go_enter Try.func30, Try.ntmps30
      go_wp2
      go_ret
      rw [HQ.out]
      exact ⟨none, 0, rfl, ⟨Nat.le_refl _, by omega, (fun x h => nomatch h), fun h => absurd h (Nat.lt_irrefl _)⟩, Below.refl _ _⟩
  obtain ⟨N, rfl⟩ : ∃ N : Nat, n = (N : Int) := ⟨n.toNat, by omega⟩
  have hN : N ≤ 2147483647 := by omega
  obtain ⟨Z, eZ⟩ : ∃ Z, Bq.whole (N : Int) = Z := ⟨_, rfl⟩
  have hZ : Z = Bq.wholeF 6 N [] := by
    rw [← eZ]
    unfold Bq.whole
    rw [if_neg hout]
    rfl
  have HZ := Lib.hid hZ
  have HZ256 : Hid (∀ x ∈ Z, x < 256) := by unfold Hid; rw [← eZ]; exact Bq.whole_byte _
  rw [eZ]
  have d1 : decide ((N : Int) < 0) = false := decide_eq_false (by omega)
  have d2 : decide ((2147483647 : Int) < (N : Int)) = false := decide_eq_false (by omega)
  clear hout eZ hZ
  go_enter Try.func30, Try.ntmps30
  go_wp2_with fail
  go_loopw [0, 3] (fun n' ov wr => WhRel Z w n' ov wr) (fun n' _ _ => (intOf n').toNat)
  case atStart => exact ⟨N, [], rfl, World.ownsRow_nil _ _ _ _, (fun x h => nomatch h), by decide, by simpa using hN, Below.refl _ _, HZ⟩
  case round =>
    obtain ⟨m, acc, rfl, hown, h256, hal, hmb, hb, hrel⟩ := hrel
    obtain ⟨A4, c4, rfl⟩ := own_slice hown
    have hwb : w.heap.size ≤ wr.heap.size := hb.size
    have HOWN := Lib.hid hown
    have H256 := Lib.hid h256
    have HMB := Lib.hid hmb
    have hm31 : m ≤ 2147483647 := Nat.le_trans (Nat.le_mul_of_pos_right m (Nat.pow_pos (by decide))) hmb
    clear hown h256 hmb
    by_cases h128 : 128 ≤ m
    · have hd : decide ((128 : Int) ≤ (m : Int)) = true := decide_eq_true (by omega)
      have h3 : acc.length ≠ 3 := fun e => by
        have := HMB.out
        rw [e] at this
        simp at this
        omega
      have HW : Hid (Z = Bq.wholeF (6 - (m % 256 :: acc).length) (m / 256) (m % 256 :: acc)) := by
        unfold Hid
        rw [hrel.out, List.length_cons, show 6 - acc.length = (6 - (acc.length + 1)) + 1 from by omega, Bq.wholeF, if_neg (by omega)]
      have HMB2 : Hid (m / 256 * 256 ^ (m % 256 :: acc).length ≤ 2147483647) := by
        unfold Hid
        rw [List.length_cons, Nat.pow_succ, ← Nat.mul_assoc, Nat.mul_right_comm]
        exact Nat.le_trans (Nat.mul_le_mul_right _ (Nat.div_mul_le_self m 256)) HMB.out
      repeat ((fail_if_success (with_reducible show wpList _ _ _ (⟨some 17, _, _, _, _, _⟩ :: _) _ _)); first | go_values | go_skip | go_guarded | go_step | go_upon | go_back | go_simp)
      have how := own_new1 (W := wr) (e := 5) (v := .int .u8 ((m : Int) % 256)) rfl hwb
      have hbA : Below w.heap.size w (wr.alloc (.cells #[.int .u8 ((m : Int) % 256)] 5)) := hb.alloc hwb _
      have hszA : w.heap.size ≤ (wr.alloc (.cells #[.int .u8 ((m : Int) % 256)] 5)).heap.size := hbA.size
      have hacc := (own_arg (HOWN.out.alloc (.cells #[.int .u8 ((m : Int) % 256)] 5)) H256.out).2
      with_reducible refine append_arg rfl (.tmp 15) (.tmp 16) ?s0 w.heap.size _ 1 [.int .u8 ((m : Int) % 256)] A4 c4 acc how hacc ?s1 ?s2 ?s3 ?s4 ?_
      case s0 => rfl
      case s1 => rfl
      case s2 => rfl
      case s3 => omega
      case s4 => exact hszA
      intro v5 w5 hown5 hgr5
      have hb5 : Below w.heap.size w w5 := hbA.grown hgr5 hszA (fun b e => (how.lt b e).1)
      have e5 : [.int .u8 ((m : Int) % 256)] ++ u8s acc = u8s (m % 256 :: acc) := by simp [u8s]
      rw [e5, show 1 + acc.length = (m % 256 :: acc).length from by rw [List.length_cons]; omega] at hown5
      have HRL : Hid (WhRel Z w (.int .i64 ((m / 256 : Nat) : Int)) v5 w5) := ⟨m / 256, m % 256 :: acc, rfl, hown5, fun x hx => by
        rcases List.mem_cons.1 hx with rfl | hx
        · omega
        · exact H256.out x hx, by rw [List.length_cons]; omega, HMB2.out, hb5, HW⟩
      clear how hbA hszA hacc hown5 hgr5 hb5 e5
      go_frame
      go_wp2
      go_roundw
      case rel => exact HRL.out
      case measure => simp [intOf]; omega
    · have hd : decide ((128 : Int) ≤ (m : Int)) = false := decide_eq_false (by omega)
      have HF : Hid (Z = if acc = [] ∨ 0 < m ∨ 128 ≤ acc.headD 0 then m :: acc else acc) := by
        unfold Hid
        rw [hrel.out, show 6 - acc.length = (5 - acc.length) + 1 from by omega, Bq.wholeF, if_pos (by omega)]
      have hcase : (acc.length = 0) ∨ (0 < acc.length ∧ 0 < m) ∨ (0 < acc.length ∧ m = 0) := by omega
      by_cases hpre : acc = [] ∨ 0 < m ∨ 128 ≤ acc.headD 0
      · have HQ : Hid (Z = m :: acc) := by unfold Hid; rw [HF.out, if_pos hpre]
        have hfacts : (((acc.length : Int) == 0) = true) ∨ ((((acc.length : Int) == 0) = false) ∧ decide ((0 : Int) < (m : Int)) = true ∧ 0 < m) ∨ ((((acc.length : Int) == 0) = false) ∧ decide ((0 : Int) < (m : Int)) = false ∧ ¬ 0 < m ∧ 0 < acc.length ∧ 128 ≤ acc.getD 0 0) := by
          rcases hcase with h | ⟨h1, h2⟩ | ⟨h1, h2⟩
          · exact .inl (by rw [beq_iff_eq]; omega)
          · exact .inr (.inl ⟨by rw [beq_eq_false_iff_ne]; omega, decide_eq_true (by omega), h2⟩)
          · refine .inr (.inr ⟨by rw [beq_eq_false_iff_ne]; omega, decide_eq_false (by omega), by omega, h1, ?_⟩)
            rcases hpre with h | h | h
            · rw [h] at h1; simp at h1
            · omega
            · cases acc with
              | nil => simp at h1
              | cons x r => simpa using h
        have hm128 : m < 128 := by omega
        clear hpre hcase hrel HF
        rcases hfacts with f1 | ⟨f1, f2, f3⟩ | ⟨f1, f2, f3, f4, f5⟩
        · repeat ((fail_if_success (with_reducible show wpList _ _ _ (⟨some 37, _, _, _, _, _⟩ :: _) _ _)); first | go_values | go_skip | go_guarded | go_step | go_upon | go_back | go_simp)
          have how := own_new1 (W := wr) (e := 5) (v := .int .u8 (m : Int)) rfl hwb
          have hbA : Below w.heap.size w (wr.alloc (.cells #[.int .u8 (m : Int)] 5)) := hb.alloc hwb _
          have hszA : w.heap.size ≤ (wr.alloc (.cells #[.int .u8 (m : Int)] 5)).heap.size := hbA.size
          have hacc := (own_arg (HOWN.out.alloc (.cells #[.int .u8 (m : Int)] 5)) H256.out).2
          with_reducible refine append_arg rfl (.tmp 35) (.tmp 36) ?s0 w.heap.size _ 1 [.int .u8 (m : Int)] _ c4 acc how hacc ?s1 ?s2 ?s3 ?s4 ?_
          case s0 => rfl
          case s1 => rfl
          case s2 => rfl
          case s3 => omega
          case s4 => exact hszA
          intro v5 w5 hown5 hgr5
          have hb5 : Below w.heap.size w w5 := hbA.grown hgr5 hszA (fun b e => (how.lt b e).1)
          have e5 : [.int .u8 (m : Int)] ++ u8s acc = u8s (m :: acc) := by simp [u8s]
          rw [e5, show 1 + acc.length = (m :: acc).length from by rw [List.length_cons]; omega] at hown5
          obtain ⟨A6, c6, rfl⟩ := own_slice hown5
          have HE : Hid (BytesEnd Z w (.returned (.slice A6 (m :: acc).length c6)) w5) := by
            unfold Hid
            rw [HQ.out]
            exact ⟨_, _, rfl, (own_arg hown5 (fun x hx => by
              rcases List.mem_cons.1 hx with rfl | hx
              · omega
              · exact H256.out x hx)).2, hb5⟩
          rw [List.length_cons] at HE ⊢
          clear how hbA hszA hacc hown5 hgr5 hb5 e5
          go_frame
          go_wp2
          go_ret
          exact HE.out
        · repeat ((fail_if_success (with_reducible show wpList _ _ _ (⟨some 37, _, _, _, _, _⟩ :: _) _ _)); first | go_values | go_skip | go_guarded | go_step | go_upon | go_back | go_simp)
          have how := own_new1 (W := wr) (e := 5) (v := .int .u8 (m : Int)) rfl hwb
          have hbA : Below w.heap.size w (wr.alloc (.cells #[.int .u8 (m : Int)] 5)) := hb.alloc hwb _
          have hszA : w.heap.size ≤ (wr.alloc (.cells #[.int .u8 (m : Int)] 5)).heap.size := hbA.size
          have hacc := (own_arg (HOWN.out.alloc (.cells #[.int .u8 (m : Int)] 5)) H256.out).2
          with_reducible refine append_arg rfl (.tmp 35) (.tmp 36) ?s0 w.heap.size _ 1 [.int .u8 (m : Int)] _ c4 acc how hacc ?s1 ?s2 ?s3 ?s4 ?_
          case s0 => rfl
          case s1 => rfl
          case s2 => rfl
          case s3 => omega
          case s4 => exact hszA
          intro v5 w5 hown5 hgr5
          have hb5 : Below w.heap.size w w5 := hbA.grown hgr5 hszA (fun b e => (how.lt b e).1)
          have e5 : [.int .u8 (m : Int)] ++ u8s acc = u8s (m :: acc) := by simp [u8s]
          rw [e5, show 1 + acc.length = (m :: acc).length from by rw [List.length_cons]; omega] at hown5
          obtain ⟨A6, c6, rfl⟩ := own_slice hown5
          have HE : Hid (BytesEnd Z w (.returned (.slice A6 (m :: acc).length c6)) w5) := by
            unfold Hid
            rw [HQ.out]
            exact ⟨_, _, rfl, (own_arg hown5 (fun x hx => by
              rcases List.mem_cons.1 hx with rfl | hx
              · omega
              · exact H256.out x hx)).2, hb5⟩
          rw [List.length_cons] at HE ⊢
          clear how hbA hszA hacc hown5 hgr5 hb5 e5
          go_frame
          go_wp2
          go_ret
          exact HE.out
        · obtain ⟨b, off, rfl, hblt, hcell⟩ := arg_get (own_arg HOWN.out H256.out).2 f4
          have k0 := hcell 0 f4
          rw [Nat.add_zero] at k0
          obtain ⟨x0, ex0⟩ : ∃ x0, acc.getD 0 0 = x0 := ⟨_, rfl⟩
          rw [ex0] at k0 f5
          have d5 : decide ((128 : Int) ≤ (x0 : Int)) = true := decide_eq_true (by omega)
          clear hcell ex0
          repeat ((fail_if_success (with_reducible show wpList _ _ _ (⟨some 37, _, _, _, _, _⟩ :: _) _ _)); first | go_values | go_skip | go_guarded | go_step | go_upon | go_back | go_simp)
          have how := own_new1 (W := wr) (e := 5) (v := .int .u8 (m : Int)) rfl hwb
          have hbA : Below w.heap.size w (wr.alloc (.cells #[.int .u8 (m : Int)] 5)) := hb.alloc hwb _
          have hszA : w.heap.size ≤ (wr.alloc (.cells #[.int .u8 (m : Int)] 5)).heap.size := hbA.size
          have hacc := (own_arg (HOWN.out.alloc (.cells #[.int .u8 (m : Int)] 5)) H256.out).2
          with_reducible refine append_arg rfl (.tmp 35) (.tmp 36) ?s0 w.heap.size _ 1 [.int .u8 (m : Int)] _ c4 acc how hacc ?s1 ?s2 ?s3 ?s4 ?_
          case s0 => rfl
          case s1 => rfl
          case s2 => rfl
          case s3 => omega
          case s4 => exact hszA
          intro v5 w5 hown5 hgr5
          have hb5 : Below w.heap.size w w5 := hbA.grown hgr5 hszA (fun b e => (how.lt b e).1)
          have e5 : [.int .u8 (m : Int)] ++ u8s acc = u8s (m :: acc) := by simp [u8s]
          rw [e5, show 1 + acc.length = (m :: acc).length from by rw [List.length_cons]; omega] at hown5
          obtain ⟨A6, c6, rfl⟩ := own_slice hown5
          have HE : Hid (BytesEnd Z w (.returned (.slice A6 (m :: acc).length c6)) w5) := by
            unfold Hid
            rw [HQ.out]
            exact ⟨_, _, rfl, (own_arg hown5 (fun x hx => by
              rcases List.mem_cons.1 hx with rfl | hx
              · omega
              · exact H256.out x hx)).2, hb5⟩
          rw [List.length_cons] at HE ⊢
          clear how hbA hszA hacc hown5 hgr5 hb5 e5
          go_frame
          go_wp2
          go_ret
          exact HE.out
      · have HQ : Hid (Z = acc) := by unfold Hid; rw [HF.out, if_neg hpre]
        simp only [not_or] at hpre
        obtain ⟨p1, p2, p3⟩ := hpre
        have hap : 0 < acc.length := List.length_pos_iff.2 p1
        have d3 : ((acc.length : Int) == 0) = false := by rw [beq_eq_false_iff_ne]; omega
        have d4 : decide ((0 : Int) < (m : Int)) = false := decide_eq_false (by omega)
        have p4 : acc.getD 0 0 < 128 := by
          cases acc with
          | nil => simp at hap
          | cons x r => simp at p3; simpa using p3
        obtain ⟨b, off, rfl, hblt, hcell⟩ := arg_get (own_arg HOWN.out H256.out).2 hap
        have k0 := hcell 0 hap
        rw [Nat.add_zero] at k0
        obtain ⟨x0, ex0⟩ : ∃ x0, acc.getD 0 0 = x0 := ⟨_, rfl⟩
        rw [ex0] at k0 p4
        have d5 : decide ((128 : Int) ≤ (x0 : Int)) = false := decide_eq_false (by omega)
        have HE : Hid (BytesEnd Z w (.returned (.slice (some ⟨b, off, none⟩) acc.length c4)) wr) := by
          unfold Hid
          rw [HQ.out]
          exact ⟨_, _, rfl, (own_arg HOWN.out H256.out).2, hb⟩
        obtain rfl : m = 0 := by omega
        clear hcell p1 p2 p3 ex0 hcase hrel HF
        go_wp2
        go_ret
        exact HE.out
end Go.Proofs.Ytkjofadabaecfaa
