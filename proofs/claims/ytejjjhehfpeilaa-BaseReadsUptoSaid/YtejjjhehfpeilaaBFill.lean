/-
  The contract of base.fill.
-/
import Derived.Test.YtejjjhehfpeilaaBEnc
namespace Go.Proofs.Ytejjjhehfpeilaa
open Go.RowKit

theorem fl_take (n W k : Nat) (hk : k < n) : (B64.fl n W).take (k + 1) = (B64.fl n W).take k ++ [W / 2 ^ (16 - 8 * k) % 256] := by
  have hl : k < (B64.fl n W).length := by rw [B64.fl_length]; exact hk
  rw [List.take_succ_eq_append_getElem hl]
  congr 2
  simp [B64.fl]
theorem byte_small (W k : Nat) (hk : k < 3) : ((W : Int) / 2 ^ (24 - 8 * (k + 1))) % 256 = ((W / 2 ^ (16 - 8 * k) % 256 : Nat) : Int) := by
  obtain rfl | rfl | rfl : k = 0 ∨ k = 1 ∨ k = 2 := by omega
  all_goals (simp only [Nat.reduceMul, Nat.reduceSub, Nat.reduceAdd, Nat.reducePow]; omega)
theorem ret_bool {a b : Bool} (h : a = b) : Ending.returned (.bool a) = .returned (.bool b) := by rw [h]
theorem val_u8 {a b : Int} (h : a = b) : Value.int .u8 a = .int .u8 b := by rw [h]
theorem splice_lt {C T : List Nat} {n : Nat} (hC : ∀ x ∈ C, x < 256) (hT : ∀ x ∈ T, x < 256) : ∀ x ∈ splice C n T, x < 256 := by
  intro x hx
  unfold splice at hx
  rw [List.mem_append, List.mem_append] at hx
  rcases hx with hx | hx | hx
  · exact hC x (List.mem_of_mem_take hx)
  · exact hT x hx
  · exact hC x (List.mem_of_mem_drop hx)
theorem splice_mid (C T : List Nat) (n : Nat) (h : n ≤ C.length) : ((splice C n T).drop n).take T.length = T := by
  unfold splice
  have h1 : (C.take n).length = n := by rw [List.length_take]; omega
  conv => lhs; rw [← h1]
  simp

set_option maxHeartbeats 1000000 in
set_option maxRecDepth 100000 in
theorem fill_any (C : List Nat) (B off n W : Nat) (w : World) (hL : Lies w B 5 (u8s C)) (hC : ∀ x ∈ C, x < 256) (hn : n ≤ 3) (hoff : off + n ≤ C.length) :
    Calls Try.prog 20 #[.slice (some ⟨B, off, none⟩) n n, .int .u32 W] w fun e w' => e = .returned (.bool (decide (B64.jb (B64.fl n W) = W))) ∧ Lies w' B 5 (u8s (splice C off (B64.fl n W))) ∧ w.grownBy w' (some B) := by
  have HC := Lib.hid hC
  have Hoff := Lib.hid hoff
  clear hC hoff
  go_enter Try.func20, Try.ntmps20
  go_wp2
  go_loopw [8] (fun i wr => ∃ k : Nat, k ≤ n ∧ i = .int .i64 k ∧ Lies wr B 5 (u8s (splice C off ((B64.fl n W).take k))) ∧ w.grownBy wr (some B)) (fun i _ => n - (intOf i).toNat)
  case atStart => exact ⟨0, Nat.zero_le _, rfl, by simpa [splice] using hL, World.grownBy.refl w _⟩
  case round =>
    obtain ⟨k, hk, rfl, hL1, hgr⟩ := hrel
    by_cases hlt : k < n
    · have HT := Lib.hid (fl_take n W k hlt)
      have HB := Lib.hid (byte_small W k (by omega))
      have hlen : ((B64.fl n W).take k).length = k := by rw [List.length_take, B64.fl_length]; omega
      have hsl := splice_length C ((B64.fl n W).take k) off (by have := Hoff.out; omega)
      have hc : (wr.cell? ⟨B, off + k, none⟩).isSome = true := by
        rw [hL1.cell, List.getElem?_eq_getElem (by rw [u8s_length, hsl]; have := Hoff.out; omega)]; rfl
      obtain ⟨v0, hc0⟩ := Option.isSome_iff_exists.1 hc
      have hf : wr.frozen? ⟨B, off + k, none⟩ = false := hL1.free _
      have hput := hL1.put (off + k) (.int .u8 ((W / 2 ^ (16 - 8 * k) % 256 : Nat) : Int))
      have hset := splice_set C ((B64.fl n W).take k) off (W / 2 ^ (16 - 8 * k) % 256) (by rw [hlen]; have := Hoff.out; omega)
      rw [hlen, ← HT.out] at hset
      rw [u8s_set, hset] at hput
      clear hlen hsl hc hset
      go_wp2
      go_roundw
      case rel =>
        refine ⟨k + 1, by omega, by go_num, ?_, ?_⟩
        · rw [HB.out]; exact hput
        · exact ⟨hgr.os, hgr.tape, hgr.output, by simpa using hgr.size, fun j hj hne => (Below.heap_setCell _ _ _ j (fun e => hne (by rw [e]))).trans (hgr.block j hj hne)⟩
      case measure => simp [intOf]; omega
    · obtain rfl : k = n := by omega
      have hd : decide ((k : Int) < (k : Int)) = false := by simp
      have hfl := B64.fl_length k W
      rw [List.take_of_length_le (by rw [hfl]; exact Nat.le_refl _)] at hL1
      have hlt := B64.fl_lt k W
      have harg : ArgIs wr (some ⟨B, off, none⟩) k (B64.fl k W) := by
        refine ⟨by rw [hfl]; exact Nat.le_refl _, by omega, hlt, fun _ => ⟨B, off, rfl, hL1.lt, ?_⟩⟩
        have := hL1.bytes (splice_lt HC.out hlt) off (B64.fl k W).length
        rwa [splice_mid C (B64.fl k W) off (by have := Hoff.out; omega)] at this
      have hJ := joinBytes_any (B64.fl k W) _ k wr harg (by rw [hfl]; exact hn)
      rw [hfl] at hJ
      have heq : (((B64.jb (B64.fl k W) : Nat) : Int) == ((W : Nat) : Int)) = decide (B64.jb (B64.fl k W) = W) := by
        rw [Bool.eq_iff_iff, beq_iff_eq, decide_eq_true_iff]; omega
      have Heq := Lib.hid heq
      clear heq hfl hlt harg
      go_wp2_with fail
      refine hJ.mono ?_
      rintro e w' ⟨rfl, rfl⟩
      clear hJ
      go_wp2
      go_ret
      exact ⟨ret_bool Heq.out, hL1, hgr⟩
end Go.Proofs.Ytejjjhehfpeilaa
