/-
  The contracts of Print and of the document's Print.
-/
import Derived.Test.YtejmkijnngkoaaaDoorUParse
import Derived.Test.YtejmkijnngkoaaaDoorPRefN
namespace Go.Proofs.YtejmkijnngkoaaaDoor
open Go.RowKit

theorem print_bnd {L : List (List Nat × List Nat)} (h : Short L) (hn : L.length ≤ 1048576) : (Pq.print L).length ≤ 6597071896576 := by
  have := print_len h
  have h2 := Nat.mul_le_mul_right 6291458 hn
  omega
theorem print_str (H P : ByteArray) (L : List (List Nat × List Nat)) : strOf (Uq.print (numsOf H, numsOf P, L)) = schemeB ++ H ++ P ++ if L = [] then ByteArray.empty else { data := #[63] } ++ strOf (Pq.print L) := by
  unfold Uq.print
  rw [← strOf_append, ← strOf_append, ← strOf_append, strOf_numsOf, strOf_numsOf, ByteArray.append_assoc, ByteArray.append_assoc]
  congr 3
  split
  · rfl
  · rw [show ({ data := #[63] } : ByteArray) = strOf [63] from rfl, strOf_append]
    rfl
theorem print_str0 (H P : ByteArray) : strOf (Uq.print (numsOf H, numsOf P, [])) = schemeB ++ H ++ P := by
  rw [print_str, if_pos rfl, ByteArray.append_empty]
theorem print_str1 (H P : ByteArray) {L : List (List Nat × List Nat)} (h : L ≠ []) : strOf (Uq.print (numsOf H, numsOf P, L)) = schemeB ++ H ++ P ++ ({ data := #[63] } ++ strOf (Pq.print L)) := by
  rw [print_str, if_neg h]

set_option maxHeartbeats 1000000 in
set_option maxRecDepth 100000 in
theorem urlPrint_any (H P : ByteArray) (L : List (List Nat × List Nat)) (A : Option Addr) (c : Nat) (w : World) (hA : Row w A (pcells L)) (hL : Pq.Fine L) (hS : Short L) (hn : L.length ≤ 1048576) (hH : H.size ≤ 4194304) (hP : P.size ≤ 4194304) :
    Calls Tryd.prog 13 #[uval H P A L.length c] w fun e w' => e = .returned (.string (strOf (Uq.print (numsOf H, numsOf P, L)))) ∧ Below w.heap.size w w' := by
  by_cases h0 : L = []
  · subst h0
    have HS := Lib.hid (print_str0 H P)
    have hz : schemeB.size = 8 := rfl
    clear hA
    go_enter Tryd.func13, Tryd.ntmps13
    go_wp2
    go_ret
    exact ⟨by rw [HS.out]; rfl, (Below.refl _ _).alloc (Nat.le_refl _) _⟩
  · have hpos : 0 < L.length := List.length_pos_iff.2 h0
    have HS := Lib.hid (print_str1 H P h0)
    have hb := print_bnd hS hn
    have hz : schemeB.size = 8 := rfl
    have hQ := print_any L A c (w.alloc (.cells #[.string H, .string P, .slice A L.length c] 24)) (hA.alloc _) hL hS hn (by omega)
    have hqz : (strOf (Pq.print L)).size = (Pq.print L).length := strOf_size _
    obtain ⟨Q, eQ⟩ : ∃ Q, strOf (Pq.print L) = Q := ⟨_, rfl⟩
    rw [eQ] at HS hQ hqz
    have hqb : Q.size ≤ 6597071896576 := by omega
    obtain ⟨n, en⟩ : ∃ n, L.length = n := ⟨_, rfl⟩
    rw [en] at hpos hQ ⊢
    clear hA h0 eQ en hb hqz hn hS
    go_enter Tryd.func13, Tryd.ntmps13
    go_wp2_with fail
    refine hQ.mono ?_
    rintro e w1 ⟨rfl, hb1⟩
    clear hQ
    go_wp2
    go_ret
    exact ⟨by rw [HS.out]; rfl, ((Below.refl _ _).alloc (Nat.le_refl _) _).trans (hb1.mono (by simp))⟩
set_option maxHeartbeats 1000000 in
set_option maxRecDepth 100000 in
theorem refUrlPrint_any (H P : ByteArray) (L : List (List Nat × List Nat)) (A : Option Addr) (c : Nat) (w : World) (hA : Row w A (pcells L)) (hL : Pq.Fine L) (hS : Short L) (hn : L.length ≤ 1048576) (hH : H.size ≤ 4194304) (hP : P.size ≤ 4194304) :
    Calls Tryd.prog 14 #[uval H P A L.length c] w fun e w' => e = .returned (.string (strOf (Uq.print (numsOf H, numsOf P, L)))) ∧ Below w.heap.size w w' := by
  by_cases h0 : L = []
  · subst h0
    have HS := Lib.hid (print_str0 H P)
    have hz : schemeB.size = 8 := rfl
    clear hA
    go_enter Tryd.func14, Tryd.ntmps14
    go_wp2
    go_ret
    exact ⟨by rw [HS.out]; rfl, (Below.refl _ _).alloc (Nat.le_refl _) _⟩
  · have hpos : 0 < L.length := List.length_pos_iff.2 h0
    have HS := Lib.hid (print_str1 H P h0)
    have hb := print_bnd hS hn
    have hz : schemeB.size = 8 := rfl
    have hQ := fun W (h : Row W A (pcells L)) => refPrint_any L A c W h hL hS hn
    have hqz : (strOf (Pq.print L)).size = (Pq.print L).length := strOf_size _
    obtain ⟨Q, eQ⟩ : ∃ Q, strOf (Pq.print L) = Q := ⟨_, rfl⟩
    rw [eQ] at HS hqz
    simp only [eQ] at hQ
    have hqb : Q.size ≤ 6597071896576 := by omega
    have hA5 := hA.alloc (.cells #[.string H, .string P, .slice A L.length c] 24)
    obtain ⟨n, en⟩ : ∃ n, L.length = n := ⟨_, rfl⟩
    simp only [en] at hQ
    rw [en] at hpos hA5 ⊢
    have hd0 : ((n : Int) == 0) = false := by rw [beq_eq_false_iff_ne]; omega
    have hW := Lies.made w 24 [.string H, .string P, .slice A n c]
    have f0 := hW.cell 0
    have f1 := hW.cell 1
    have f2 := hW.cell 2
    have hb5 : Below w.heap.size w (w.alloc (.cells #[.string H, .string P, .slice A n c] 24)) := (Below.refl _ _).alloc (Nat.le_refl _) _
    have hlt5 := hW.lt
    have HK : Hid (∀ W, Below (w.alloc (.cells #[.string H, .string P, .slice A n c] 24)).heap.size (w.alloc (.cells #[.string H, .string P, .slice A n c] 24)) W → W.cell? ⟨w.heap.size, 0, none⟩ = some (.string H) ∧ W.cell? ⟨w.heap.size, 1, none⟩ = some (.string P) ∧ W.cell? ⟨w.heap.size, 2, none⟩ = some (.slice A n c) ∧ Row W A (pcells L)) := fun W hb => ⟨(hW.below hb hlt5).cell 0, (hW.below hb hlt5).cell 1, (hW.below hb hlt5).cell 2, hA5.below hb (Nat.le_refl _)⟩
    clear hA h0 eQ en hb hqz hn hS hW
    go_enter Tryd.func14, Tryd.ntmps14
    go_upto_region 3 with (fail)
    have hrf := Below.refl (w.alloc (.cells #[.string H, .string P, .slice A n c] 24)).heap.size (w.alloc (.cells #[.string H, .string P, .slice A n c] 24))
    generalize (w.alloc (.cells #[.string H, .string P, .slice A n c] 24)) = w5 at *
    have HB5 := Lib.hid hb5
    clear hb5
    have y1 : ¬ 9223372036854775807 < 8 + H.size := by omega
    have y2 : ¬ 9223372036854775807 < 8 + H.size + P.size := by omega
    have y3 : ¬ 9223372036854775807 < 8 + H.size + P.size + 1 := by omega
    have y4 : ¬ 9223372036854775807 < 8 + H.size + P.size + 1 + Q.size := by omega
    go_region_held3 (fun W => W.cell? ⟨w.heap.size, 0, none⟩ = some (.string H) ∧ W.cell? ⟨w.heap.size, 1, none⟩ = some (.string P) ∧ W.cell? ⟨w.heap.size, 2, none⟩ = some (.slice A n c) ∧ Row W A (pcells L) ∧ Below w5.heap.size w5 W)
      (first
        | (go_split_ands; have hbz := (by assumption : Below w5.heap.size w5 _).trans (hba.mono (by assumption : Below w5.heap.size w5 _).size); exact ⟨(HK.out _ hbz).1, (HK.out _ hbz).2.1, (HK.out _ hbz).2.2.1, (HK.out _ hbz).2.2.2, hbz⟩)
        | (go_split_ands; have hbz := below_drew (by assumption : Below w5.heap.size w5 _); exact ⟨(HK.out _ hbz).1, (HK.out _ hbz).2.1, (HK.out _ hbz).2.2.1, (HK.out _ hbz).2.2.2, hbz⟩)
        | go_keep)
      (first | (go_at_call 29; go_split_ands; with_reducible refine (hQ _ (by assumption)).mono ?_; rintro e wa ⟨rfl, hba⟩))
    all_goals
      go_split_ands
      have hfin : Below w5.heap.size w5 wa := by assumption
      have hb6 := HB5.out.trans (hfin.mono HB5.out.size)
      clear hQ
      go_wp2
      go_ret
      exact ⟨by rw [HS.out, ← ByteArray.append_assoc]; rfl, hb6⟩
end Go.Proofs.YtejmkijnngkoaaaDoor
