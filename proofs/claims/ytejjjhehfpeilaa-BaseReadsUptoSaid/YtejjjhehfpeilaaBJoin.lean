/-
  The contract of joinSigns.
-/
import Derived.Test.YtejjjhehfpeilaaBIdx
namespace Go.Proofs.Ytejjjhehfpeilaa
open Go.RowKit

theorem nums_at (s : ByteArray) (k : Nat) (h : k < s.size) : (numsOf s).getD k 0 = s[k].toNat := by
  have h' : k < s.data.toList.length := by simpa using h
  simp [numsOf, List.getD_eq_getElem?_getD, List.getElem?_eq_getElem h']
  rfl
theorem okS_iff (L : List Nat) : B64.okS L ↔ ∀ j, j < L.length → B64.val (L.getD j 0) < 64 := by
  constructor
  · intro h j hj
    rw [List.getD_eq_getElem?_getD, List.getElem?_eq_getElem hj]
    exact h _ (List.getElem_mem hj)
  · intro h x hx
    obtain ⟨j, hj, rfl⟩ := List.getElem_of_mem hx
    have := h j hj
    rwa [List.getD_eq_getElem?_getD, List.getElem?_eq_getElem hj] at this

theorem shl_small (v k : Nat) (hv : v < 64) (hk : k < 4) : ((v : Int) * 2 ^ (24 - 6 * (k + 1)) % 4294967296) = ((v * 2 ^ (18 - 6 * k) : Nat) : Int) := by
  obtain rfl | rfl | rfl | rfl : k = 0 ∨ k = 1 ∨ k = 2 ∨ k = 3 := by omega
  all_goals (simp only [Nat.reduceMul, Nat.reduceSub, Nat.reduceAdd, Nat.reducePow]; omega)
/-- What joinSigns answers. -/
def joined (L : List Nat) (v : Value) : Prop := (B64.okS L ∧ v = .tuple #[.int .u32 (B64.jsum L : Nat), .bool true]) ∨ (¬ B64.okS L ∧ v = .tuple #[.int .u32 0, .bool false])

set_option maxHeartbeats 1000000 in
theorem joinSigns_any (s : ByteArray) (h4 : s.size ≤ 4) (w : World) :
    Calls Try.prog 19 #[.string s] w fun e w' => (∃ v, e = .returned v ∧ joined (numsOf s) v) ∧ w = w' := by
  have Hlen := Lib.hid (numsOf_length s)
  go_enter Try.func19, Try.ntmps19
  go_wp2
  go_loop [4, 9] (fun v i => ∃ k : Nat, k ≤ s.size ∧ i = .int .i64 k ∧ v = .int .u32 (jTo (numsOf s) k : Nat) ∧ ∀ j, j < k → B64.val ((numsOf s).getD j 0) < 64) (fun _ i => s.size - (intOf i).toNat)
  case atStart => exact ⟨0, Nat.zero_le _, rfl, by unfold jTo; rw [List.take_zero]; rfl, fun j hj => by omega⟩
  case round =>
    obtain ⟨k, hk, rfl, rfl, hok⟩ := hrel
    have Hok := Lib.hid hok
    clear hok
    by_cases hlt : k < s.size
    · have hx : s[k].toNat < 256 := s[k].toNat_lt
      have HN := Lib.hid (nums_at s k hlt)
      by_cases hv : B64.val s[k].toNat < 64
      · have Hj : Hid (bits .or .u32 ((jTo (numsOf s) k : Nat) : Int) (((B64.val s[k].toNat * 2 ^ (18 - 6 * k) : Nat)) : Int) = ((jTo (numsOf s) (k + 1) : Nat) : Int)) := by
          have := jTo_or (numsOf s) k (fun j hj => by
            rcases Nat.lt_or_eq_of_le (Nat.le_of_lt_succ hj) with h | h
            · exact Hok.out j h
            · rw [h, HN.out]; exact hv) (by rw [Hlen.out]; exact hlt) (by omega)
          rw [HN.out] at this
          exact this
        obtain ⟨J, eJ⟩ : ∃ J, jTo (numsOf s) k = J := ⟨_, rfl⟩
        rw [eJ] at Hj ⊢
        clear eJ
        go_wp2_with (go_at_call 23; refine (index_yes _ hx hv _).mono ?_; rintro e w' ⟨rfl, rfl⟩)
        go_round
        case rel =>
          refine ⟨k + 1, by omega, by go_num, ?_, ?_⟩
          · rw [← Hj.out, shl_small _ k hv (by omega)]
          · intro j hj
            rcases Nat.lt_or_eq_of_le (Nat.le_of_lt_succ hj) with h | h
            · exact Hok.out j h
            · rw [h, HN.out]; exact hv
        case measure => simp [intOf]; omega
      · go_wp2_with (go_at_call 23; refine (index_no _ hx hv _).mono ?_; rintro e w' ⟨rfl, rfl⟩)
        go_ret2
        refine ⟨⟨_, rfl, .inr ⟨fun h => hv ?_, rfl⟩⟩, rfl⟩
        have := (okS_iff _).1 h k (by rw [Hlen.out]; exact hlt)
        rwa [HN.out] at this
    · have hd : decide ((k : Int) < (s.size : Int)) = false := by simp; omega
      have e : jTo (numsOf s) k = B64.jsum (numsOf s) := by unfold jTo; rw [List.take_of_length_le (by rw [Hlen.out]; omega)]
      rw [e]
      clear e
      go_wp2
      go_ret2
      exact ⟨⟨_, rfl, .inl ⟨(okS_iff _).2 fun j hj => Hok.out j (by rw [Hlen.out] at hj; omega), rfl⟩⟩, rfl⟩
end Go.Proofs.Ytejjjhehfpeilaa
