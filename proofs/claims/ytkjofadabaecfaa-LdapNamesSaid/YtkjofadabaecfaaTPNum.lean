/-
  The program's Number.
-/
import Derived.Test.YtkjofadabaecfaaTPWhole
namespace Go.Proofs.Ytkjofadabaecfaa
open Go.RowKit

theorem whole_len (n : Int) : (Bq.whole n).length ≤ 4 := by
  unfold Bq.whole
  split
  · exact Nat.zero_le _
  · rename_i h
    exact (Bq.wholeF_len 6 n.toNat [] rfl (by simp; omega) (by decide) (by decide)).2
theorem whole_pos {n : Int} (h : ¬ (n < 0 ∨ 2147483647 < n)) : 1 ≤ (Bq.whole n).length := by
  unfold Bq.whole
  rw [if_neg h]
  exact (Bq.wholeF_len 6 n.toNat [] rfl (by simp; omega) (by decide) (by decide)).1
/-- What the number that bytes say, reckoned as the program does, says of what they are. -/
theorem number_of {q : List Nat} {N : Int} (hN : q.length ≤ 7 → N = (Bq.valB q : Int)) : (q = Bq.whole N → numberP q = (N.toNat, true) ∧ (N.toNat : Int) = N) ∧ (q ≠ Bq.whole N → numberP q = (0, false)) := by
  have h4 := whole_len N
  refine ⟨fun h => ?_, fun h => ?_⟩
  · have hl : q.length ≤ 4 := by rw [h]; exact h4
    have hv := hN (by omega)
    have hp : 1 ≤ q.length := by
      rw [h]
      refine whole_pos (fun hc => ?_)
      have e : Bq.whole N = [] := if_pos hc
      rw [e] at h
      subst h
      rw [hv] at hc
      simp [Bq.valB] at hc
    refine ⟨?_, by rw [hv]; rfl⟩
    unfold numberP
    rw [if_pos ⟨⟨hp, hl⟩, by rw [← hv]; exact h.symm⟩, hv]
    rfl
  · unfold numberP
    rw [if_neg]
    rintro ⟨⟨h1, h2⟩, h3⟩
    rw [← hN (by omega)] at h3
    exact h h3.symm

set_option maxHeartbeats 1000000 in
set_option maxRecDepth 100000 in
theorem number_any (q : List Nat) (A : Option Addr) (c : Nat) (w : World) (hq : ArgIs w A c q) :
    Calls Try.prog 31 #[.slice A q.length c] w fun e w' => e = .returned (.tuple #[.int .i64 ((numberP q).1 : Int), .bool (numberP q).2]) ∧ Below w.heap.size w w' := by
  have hJ := joined_any q A c w hq
  have HQ := Lib.hid hq
  clear hq
  go_enter Try.func31, Try.ntmps31
  go_wp2_with fail
  refine hJ.mono ?_
  rintro e w1 ⟨rfl, N, rfl, hN, hv⟩
  obtain ⟨n1, n2⟩ := number_of hv
  have HN1 := Lib.hid n1
  have HN2 := Lib.hid n2
  have hW := whole_any N w
  clear hJ hv n1 n2
  go_wp2_with fail
  refine hW.mono ?_
  rintro e w2 ⟨A2, c2, rfl, hq2, hb2⟩
  have hE := bytesEqual_any q (Bq.whole N) A A2 c c2 w2 (HQ.out.on hb2) hq2
  clear hW hq2
  go_wp2_with fail
  refine hE.mono ?_
  rintro e w3 ⟨rfl, ⟨h, rfl⟩ | ⟨h, rfl⟩⟩
  · obtain ⟨k1, k2⟩ := HN1.out h
    have HE : Hid (Value.int .i64 N = .int .i64 ((numberP q).1 : Int) ∧ (numberP q).2 = true) := ⟨by rw [k1, k2], by rw [k1]⟩
    clear hE h k1 k2
    go_wp2
    go_ret2
    exact ⟨by rw [← HE.out.1, HE.out.2]; rfl, hb2⟩
  · have HE := Lib.hid (HN2.out h)
    clear hE h
    go_wp2
    go_ret2
    exact ⟨by rw [HE.out]; rfl, hb2⟩
end Go.Proofs.Ytkjofadabaecfaa
