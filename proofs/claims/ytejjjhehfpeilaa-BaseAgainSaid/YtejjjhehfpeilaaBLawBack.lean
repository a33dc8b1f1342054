/-
  The walks of the laws BaseBack, BaseAgain and BaseLong.
-/
import Derived.Test.YtejjjhehfpeilaaBAlive
namespace Go.Proofs.Ytejjjhehfpeilaa
open Go.RowKit

theorem str_self (s : ByteArray) : (s.toList == s.toList) = true := by simp

set_option maxHeartbeats 400000 in
set_option maxRecDepth 100000 in
theorem lawBack (q : List Nat) (A : Option Addr) (c : Nat) (w : World) (hq : ArgIs w A c q) (hn : q.length ≤ 140737488351232) :
    Calls Try.prog 5 #[.slice A q.length c] w fun e w' => e = .returned (.bool true) ∧ Below w.heap.size w w' := by
  have hsz : (strOf (B64.enc q)).size ≤ 281474976710656 := by rw [strOf_size, B64.enc_length]; unfold B64.sf; omega
  have hdec : B64.IsDec (numsOf (strOf (B64.enc q))) (some q) := by rw [numsOf_strOf (B64.enc_lt q)]; exact ⟨hq.2.2.1, rfl⟩
  go_enter Try.func5, Try.ntmps5
  go_wp2_with fail
  refine (encode_any q A c w hq (by omega)).mono ?_
  rintro e w1 ⟨rfl, hb1⟩
  go_wp2_with fail
  refine (decode_of _ q hdec _ hsz).mono ?_
  rintro e w2 ⟨A2, c2, rfl, ha2, hb2⟩
  have hb02 : Below w.heap.size w w2 := hb1.trans (hb2.mono hb1.size)
  clear hb1 hb2 hdec hsz
  go_wp2_with fail
  refine (alive_any w2).mono ?_
  rintro e w3 ⟨rfl, hb3⟩
  have hb03 : Below w.heap.size w w3 := hb02.trans (hb3.mono hb02.size)
  have hc2 := conv_str (ha2.below hb3 (Nat.le_refl _))
  have hc1 := conv_str (hq.below hb03 (Nat.le_refl _))
  have hse := str_self (strOf q)
  obtain ⟨S, eS⟩ : ∃ S, strOf q = S := ⟨_, rfl⟩
  rw [eS] at hc1 hc2 hse
  clear eS hb3 hb02 ha2 hq
  go_wp2
  go_ret
  exact ⟨rfl, hb03⟩

set_option maxHeartbeats 400000 in
set_option maxRecDepth 100000 in
theorem lawAgain (s : ByteArray) (w : World) (hn : s.size ≤ 140737488351232) :
    Calls Try.prog 6 #[.string s] w fun e w' => e = .returned (.bool true) ∧ Below w.heap.size w w' := by
  go_enter Try.func6, Try.ntmps6
  go_wp2_with fail
  refine (decode_any s w (by omega)).mono ?_
  intro e w1 h
  rcases h with ⟨q, A, c, hdec, rfl, ha, hb1⟩ | ⟨_, rfl, hb1⟩
  · have hlen : q.length ≤ s.size := by
      have := congrArg List.length hdec.2
      rw [B64.enc_length, numsOf_length] at this
      unfold B64.sf at this
      omega
    have hS : strOf (B64.enc q) = s := by rw [hdec.2, strOf_numsOf]
    have HS := Lib.hid hS
    clear hdec hS
    go_wp2_with fail
    refine (alive_any w1).mono ?_
    rintro e w2 ⟨rfl, hb2⟩
    have hb02 : Below w.heap.size w w2 := hb1.trans (hb2.mono hb1.size)
    have ha2 := ha.below hb2 (Nat.le_refl _)
    clear hb1 hb2 ha
    go_wp2_with fail
    refine (encode_any q A c w2 ha2 (by omega)).mono ?_
    rintro e w3 ⟨rfl, hb3⟩
    have hb03 : Below w.heap.size w w3 := hb02.trans (hb3.mono hb02.size)
    rw [HS.out]
    have hse := str_self s
    clear hb02 hb3 ha2
    go_wp2
    go_ret
    exact ⟨rfl, hb03⟩
  · go_wp2_with fail
    refine (alive_any w1).mono ?_
    rintro e w2 ⟨rfl, hb2⟩
    have hb02 : Below w.heap.size w w2 := hb1.trans (hb2.mono hb1.size)
    clear hb1 hb2
    go_wp2
    go_ret
    exact ⟨rfl, hb02⟩

set_option maxHeartbeats 400000 in
set_option maxRecDepth 100000 in
theorem lawLong (q : List Nat) (A : Option Addr) (c : Nat) (w : World) (hq : ArgIs w A c q) (hn : q.length ≤ 140737488351232) :
    Calls Try.prog 7 #[.slice A q.length c] w fun e w' => e = .returned (.bool true) ∧ Below w.heap.size w w' := by
  have hE := encode_any q A c w hq (by omega)
  have hsz : (strOf (B64.enc q)).size = B64.sf q.length := by rw [strOf_size, B64.enc_length]
  obtain ⟨S, eS⟩ : ∃ S, strOf (B64.enc q) = S := ⟨_, rfl⟩
  obtain ⟨l, el⟩ : ∃ l, q.length = l := ⟨_, rfl⟩
  rw [eS] at hE hsz
  rw [el] at hE hsz hn ⊢
  have hd : ((S.size : Int) == (l : Int) / 3 * 4 + ((l : Int) % 3 * 4 + 2) / 3) = true := by
    rw [beq_iff_eq, hsz]; unfold B64.sf; omega
  have hSm : S.size ≤ 281474976710656 := by rw [hsz]; unfold B64.sf; omega
  clear eS el hsz hq
  go_enter Try.func7, Try.ntmps7
  go_wp2_with fail
  refine hE.mono ?_
  rintro e w1 ⟨rfl, hb1⟩
  clear hE
  go_wp2_with fail
  refine (alive_any w1).mono ?_
  rintro e w2 ⟨rfl, hb2⟩
  have hb02 : Below w.heap.size w w2 := hb1.trans (hb2.mono hb1.size)
  clear hb1 hb2
  go_wp2
  go_ret
  exact ⟨rfl, hb02⟩
end Go.Proofs.Ytejjjhehfpeilaa
