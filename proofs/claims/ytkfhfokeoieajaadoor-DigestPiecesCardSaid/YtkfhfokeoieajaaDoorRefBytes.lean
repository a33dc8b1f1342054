/-
  The contract of the document's own Bytes.
-/
import Derived.Test.YtkfhfokeoieajaaDoorRefSum
import Derived.Test.YtkfhfokeoieajaaDoorMacAll
namespace Go.Proofs.YtkfhfokeoieajaaDoor
open Go.RowKit

theorem own_slice {w : World} {base : Nat} {e : TypeId} {size n : Nat} {v : Value} {xs : List Value} (h : w.ownsRow base e size v n xs) : ∃ A cap, v = .slice A n cap := by
  rcases h.2 with ⟨rfl, rfl⟩ | ⟨g, cap, cur, rfl, _⟩
  · exact ⟨_, _, rfl⟩
  · exact ⟨_, _, rfl⟩
theorem own_below {w w' : World} {base : Nat} {e : TypeId} {size n : Nat} {v : Value} {xs : List Value} (h : w.ownsRow base e size v n xs) (hb : Below w.heap.size w w') : w'.ownsRow base e size v n xs := by
  refine ⟨h.1, ?_⟩
  rcases h.2 with hn | ⟨g, cap, cur, rfl, hB, hgg, rest⟩
  · exact .inl hn
  · exact .inr ⟨g, cap, cur, rfl, hB, (hb.block g (Array.getElem?_eq_some_iff.1 hgg).1).trans hgg, rest⟩
theorem own_base {w : World} {base base' : Nat} {e : TypeId} {size n : Nat} {v : Value} {xs : List Value} (h : w.ownsRow base e size v n xs) (hb : base' ≤ base) : w.ownsRow base' e size v n xs := by
  refine ⟨h.1, ?_⟩
  rcases h.2 with hn | ⟨g, cap, cur, rfl, hB, rest⟩
  · exact .inl hn
  · exact .inr ⟨g, cap, cur, rfl, by omega, rest⟩
theorem take_next (L : List Nat) (k : Nat) (hk : k < L.length) : L.take (k + 1) = L.take k ++ [L.getD k 0] := by
  rw [List.take_succ_eq_append_getElem hk, List.getD_eq_getElem?_getD, List.getElem?_eq_getElem hk]; rfl
theorem getD_lt256 (L : List Nat) (k : Nat) (h : ∀ x ∈ L, x < 256) (hk : k < L.length) : L.getD k 0 < 256 := by
  rw [List.getD_eq_getElem?_getD, List.getElem?_eq_getElem hk]; exact h _ (List.getElem_mem hk)

set_option maxHeartbeats 400000 in
set_option maxRecDepth 100000 in
theorem refBytes_any (L : List Nat) (w : World) (hL : L.length = 32) (hlt : ∀ x ∈ L, x < 256) :
    Calls Tryd.prog 18 #[.agg (u8s L).toArray] w fun e w' => ∃ v, e = .returned v ∧ w'.ownsRow w.heap.size 5 1 v 32 (u8s L) ∧ Below w.heap.size w w' := by
  have HL := Lib.hid hL
  have Hlt := Lib.hid hlt
  clear hL hlt
  go_enter Tryd.func18, Tryd.ntmps18
  go_wp2_with fail
  generalize hw1 : World.alloc _ _ = w1
  have h01 : Lies w1 w.heap.size 25 (u8s L) := by rw [← hw1]; exact Lies.made w _ (u8s L)
  have hs1 : w1.heap.size = w.heap.size + 1 := by rw [← hw1]; simp
  have hb1 : Below w.heap.size w w1 := by rw [← hw1]; exact (Below.refl _ _).alloc (Nat.le_refl _) _
  clear hw1
  go_loopw [3, 4] (fun v i wr => ∃ k : Nat, k ≤ 32 ∧ i = .int .i64 k ∧ wr.ownsRow w1.heap.size 5 1 v k (u8s (L.take k)) ∧ Below w1.heap.size w1 wr) (fun _ i _ => 32 - (intOf i).toNat)
  case atStart => exact ⟨0, Nat.zero_le _, rfl, World.ownsRow_nil _ _ _ _, Below.refl _ _⟩
  case round =>
    obtain ⟨k, hk, rfl, hown, hb⟩ := hrel
    have h0 := h01.below hb h01.lt
    by_cases hlt : k < 32
    · have hd : decide ((k : Int) < 32) = true := by simp; omega
      have HT := Lib.hid (take_next L k (by rw [HL.out]; exact hlt))
      have hx := getD_lt256 L k Hlt.out (by rw [HL.out]; exact hlt)
      have hc : wr.cell? ⟨w.heap.size, k, none⟩ = some (.int .u8 (L.getD k 0 : Nat)) := by
        rw [h0.cell, List.getD_eq_getElem?_getD]
        have hk' : k < L.length := by rw [HL.out]; exact hlt
        simp [u8s, List.getElem?_eq_getElem hk']
      obtain ⟨x, ex⟩ : ∃ x, L.getD k 0 = x := ⟨_, rfl⟩
      rw [ex] at hx hc HT
      clear ex
      have f1 : (k : Int) < 32 := by omega
      go_upto_region 5 with (fail)
      repeat ((fail_if_success (with_reducible show wpList _ _ _ (⟨some 14, _, _, _, _, _⟩ :: _) _ _)); first | go_values | go_skip | go_guarded | go_step | go_upon | go_back | go_simp)
      with_reducible refine append_arg rfl (.tmp 9) (.tmp 13) rfl w1.heap.size _ k _ (some ⟨wr.heap.size, 0, none⟩) 1 [x] (hown.alloc _) (arg_new rfl 5 (0, 0) [x] 1 (by simpa using hx) (by simp) (by decide)) ?s1 ?s2 ?s3 ?s4 ?_
      case s1 => rfl
      case s2 => rfl
      case s3 => simp; omega
      case s4 => have := hb.size; simp; omega
      intro v2 w2 hown2 hgr2
      have hb2 : Below w1.heap.size w1 w2 := (hb.alloc hb.size _).grown hgr2 (by have := hb.size; simp; omega) (own_u8_ge hown)
      rw [← u8s_append, ← HT.out] at hown2
      clear hgr2 hown hb hd hc h0
      go_frame
      go_wp2
      go_roundw
      case rel => exact ⟨k + 1, by omega, by go_num, hown2, hb2⟩
      case measure => simp [intOf]; omega
    · obtain rfl : k = 32 := by omega
      have hd : decide (((32 : Nat) : Int) < 32) = false := by decide
      rw [List.take_of_length_le (by rw [HL.out]; exact Nat.le_refl _)] at hown
      go_wp2
      go_ret
      exact ⟨_, rfl, own_base hown (by omega), hb1.trans (hb.mono hb1.size)⟩
end Go.Proofs.YtkfhfokeoieajaaDoor
