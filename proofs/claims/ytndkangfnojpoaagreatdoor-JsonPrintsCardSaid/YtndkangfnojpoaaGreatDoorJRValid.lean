/-
  The document's Valid and named.
-/
import Derived.Test.YtndkangfnojpoaaGreatDoorJLongW
import Derived.Test.YtndkangfnojpoaaGreatDoorQS
namespace Go.Proofs.YtndkangfnojpoaaGreatDoor
open Go.RowKit

/-- What holds at each round of Valid's loop. -/
def ValidRel (S : List Nat) (w : World) (i l : Value) (wr : World) : Prop :=
  ∃ (k : Nat) (l' : Value), i = .int .i64 k ∧ l = l' ∧ k ≤ S.length ∧ Hid (Jq.valid S = Jq.valid (S.drop k)) ∧ Below w.heap.size w wr

set_option maxHeartbeats 4000000 in
set_option maxRecDepth 100000 in
theorem refValid_any (s : ByteArray) (hs : s.size ≤ 4611686018427387904) (w : World) :
    Calls Tryz.prog 71 #[.string s] w fun e w' => e = .returned (.bool (Jq.valid (numsOf s))) ∧ Below w.heap.size w w' := by
  have Hlen := Lib.hid (numsOf_length s)
  go_enter Tryz.func71, Tryz.ntmps71
  go_wp2_with fail
  go_loopw [3, 4] (fun i l wr => ValidRel (numsOf s) w i l wr) (fun i _ _ => s.size - (intOf i).toNat)
  case atStart => exact ⟨0, _, rfl, rfl, Nat.zero_le _, Lib.hid rfl, Below.refl _ _⟩
  case round =>
    obtain ⟨k, l', rfl, rfl, hk, hv, hb⟩ := hrel
    rw [Hlen.out] at hk
    by_cases hlt : k < s.size
    · have hd : decide ((k : Int) < (s.size : Int)) = true := decide_eq_true (by omega)
      have hL := long_any s k hlt hs wr
      have hne : (numsOf s).drop k ≠ [] := fun e => by
        have := congrArg List.length e
        rw [List.length_drop, Hlen.out] at this
        simp at this; omega
      have hst := Jq.valid_step hne
      obtain ⟨n, en⟩ : ∃ n, Jq.long ((numsOf s).drop k) = n := ⟨_, rfl⟩
      rw [en] at hL hst
      by_cases h0 : n = 0
      · have HV : Hid (Jq.valid (numsOf s) = false) := by unfold Hid; rw [hv.out, hst, if_pos h0]
        subst h0
        clear hst hne en
        go_wp2_with fail
        refine hL.mono ?_
        rintro e w1 ⟨rfl, hb1⟩
        have hb2 := below_more hb hb1
        clear hL hb hb1
        go_wp2
        go_ret
        exact ⟨by rw [HV.out]; rfl, hb2⟩
      · have hle := Jq.long_le ((numsOf s).drop k) (by rw [en]; omega)
        rw [en, List.length_drop, Hlen.out] at hle
        have HV : Hid (Jq.valid (numsOf s) = Jq.valid ((numsOf s).drop (k + n))) := by unfold Hid; rw [hv.out, hst, if_neg h0, List.drop_drop]
        have hd2 : ((n : Int) == 0) = false := by rw [beq_eq_false_iff_ne]; omega
        have hkn : k + n ≤ s.size := by omega
        have hn1 : 1 ≤ n := by omega
        clear hst hne en h0 hle
        go_wp2_with fail
        refine hL.mono ?_
        rintro e w1 ⟨rfl, hb1⟩
        have hb2 := below_more hb hb1
        clear hL hb hb1
        go_wp2
        go_roundw
        case rel => exact ⟨k + n, _, by go_num, rfl, by rw [Hlen.out]; exact hkn, Lib.hid HV.out, hb2⟩
        case measure => simp [intOf]; omega
    · obtain rfl : k = s.size := by omega
      have hd : decide ((s.size : Int) < (s.size : Int)) = false := by simp
      have HV : Hid (Jq.valid (numsOf s) = true) := by
        unfold Hid
        rw [hv.out, List.drop_eq_nil_of_le (by rw [Hlen.out]; exact Nat.le_refl _)]
        exact Jq.valid_nil
      clear hv
      go_wp2
      go_ret
      exact ⟨by rw [HV.out]; rfl, hb⟩

set_option maxHeartbeats 4000000 in
set_option maxRecDepth 100000 in
theorem named_any {ok : Nat → Prop} (ns : List (List Nat)) (t : List Nat) (v : Value) (w : World) (hS : SlIs w ok v ns.length (tcells ns)) (hn : ns.length ≤ 140737488355328) (hns : ∀ p ∈ ns, ∀ y ∈ p, y < 256) (ht : ∀ y ∈ t, y < 256) :
    Calls Tryz.prog 65 #[v, .string (strOf t)] w fun e w' => e = .returned (.bool (decide (t ∈ ns))) ∧ w = w' := by
  obtain ⟨A, c, rfl⟩ := hS.form
  obtain ⟨N, eN⟩ : ∃ N, ns.length = N := ⟨_, rfl⟩
  rw [eN] at hS hn ⊢
  have HN := Lib.hid eN
  have HS := Lib.hid hS
  have HNS := Lib.hid hns
  clear eN hS hns
  go_enter Tryz.func65, Tryz.ntmps65
  go_wp2_with fail
  go_loopw [5] (fun i wr => ∃ k : Nat, i = .int .i64 k ∧ k ≤ N ∧ Hid (∀ j, j < k → ns[j]? ≠ some t) ∧ wr = w) (fun i _ => N - (intOf i).toNat)
  case atStart => exact ⟨0, rfl, Nat.zero_le _, Lib.hid (fun j hj => absurd hj (Nat.not_lt_zero _)), rfl⟩
  case round =>
    obtain ⟨k, rfl, hk, hne, rfl⟩ := hrel
    by_cases hlt : k < N
    · obtain ⟨b, off, p, rfl, _, hblt, hc, hp, p0⟩ := slIs_text HS.out HN.out hlt
      have hTT := str_beq (HNS.out p (List.mem_of_getElem? hp)) ht
      have HP := Lib.hid hp
      clear hp hc
      by_cases heq : p = t
      · rw [decide_eq_true heq] at hTT
        have HV : Hid (decide (t ∈ ns) = true) := decide_eq_true (by rw [← heq]; exact List.mem_of_getElem? HP.out)
        clear heq
        go_wp2
        go_ret
        exact ⟨by rw [HV.out]; rfl, rfl⟩
      · rw [decide_eq_false heq] at hTT
        have HQ : Hid (∀ j, j < k + 1 → ns[j]? ≠ some t) := fun j hj => by
          rcases Nat.lt_or_eq_of_le (Nat.le_of_lt_succ hj) with h | h
          · exact hne.out j h
          · rw [h, HP.out]
            exact fun e => heq (Option.some.inj e)
        clear heq
        go_wp2
        go_roundw
        case rel => exact ⟨k + 1, by go_num, hlt, Lib.hid HQ.out, trivial⟩
        case measure => simp [intOf]; omega
    · obtain rfl : k = N := by omega
      have hd3 : decide ((k : Int) < (k : Int)) = false := by simp
      have HV : Hid (decide (t ∈ ns) = false) := decide_eq_false (fun h => by
        obtain ⟨j, hj, e⟩ := List.mem_iff_getElem.1 h
        exact hne.out j (by rw [← HN.out]; exact hj) (by rw [List.getElem?_eq_getElem hj, e]))
      clear hne
      go_wp2
      go_ret
      exact ⟨by rw [HV.out]; rfl, rfl⟩
end Go.Proofs.YtndkangfnojpoaaGreatDoor
