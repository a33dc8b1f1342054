/-
  The document's Right of addresses, and the walk of the law UrlRight.
-/
import Derived.Test.YtejmkijnngkoaaaGreatDoorUAlive
import Derived.Test.YtejmkijnngkoaaaGreatDoorURefParse2
import Derived.Deep.RegionHeld3
namespace Go.Proofs.YtejmkijnngkoaaaGreatDoor
open Go.RowKit

set_option maxHeartbeats 1000000 in
set_option maxRecDepth 100000 in
theorem refRight_any (H P : ByteArray) (L : List (List Nat × List Nat)) (A : Option Addr) (n c : Nat) (w : World) (hn : L.length = n) (hA : Row w A (pcells L)) (hL : Pq.Fine L) (hS : Short L) (hn9 : n ≤ 1048576) (hH : H.size ≤ 4194304) (hP : P.size ≤ 4194304) :
    Calls Tryz.prog 6 #[uval H P A n c] w fun e w' => e = .returned (.bool (Uq.right (numsOf H, numsOf P, L))) ∧ Below w.heap.size w w' := by
  have hlt := Uq.print_lt (u := (numsOf H, numsOf P, L)) (numsOf_lt H) (numsOf_lt P) hL
  have hlen : (Uq.print (numsOf H, numsOf P, L)).length ≤ 140737488351232 := by
    have h1 := print_bnd hS (by omega)
    have h2 : Uq.scheme.length = 8 := rfl
    unfold Uq.print
    simp only [List.length_append, numsOf_length, h2]
    split
    · simp; omega
    · simp only [List.length_cons]; omega
  have hP1 := refUrlPrint_any H P L A c (w.alloc (.cells #[.string H, .string P, .slice A n c] 24)) (hA.alloc _) hL hS (by omega) hH hP
  rw [hn] at hP1
  have hP2 := fun w => refUrlParse_any (strOf (Uq.print (numsOf H, numsOf P, L))) w (by rw [strOf_size]; exact hlen)
  rw [numsOf_strOf hlt] at hP2
  unfold UrlEnd at hP2
  obtain ⟨T, eT⟩ : ∃ T, strOf (Uq.print (numsOf H, numsOf P, L)) = T := ⟨_, rfl⟩
  rw [eT] at hP1
  simp only [eT] at hP2
  have hW := Lies.made w 24 [.string H, .string P, .slice A n c]
  have hbw : Below w.heap.size w (w.alloc (.cells #[.string H, .string P, .slice A n c] 24)) := (Below.refl _ _).alloc (Nat.le_refl _) _
  have HW := Lib.hid hW
  have HBW := Lib.hid hbw
  have HPl := Lib.hid hlt
  clear eT hlen hW hbw hlt
  have g0 := HW.out.cell 0
  have g1 := HW.out.cell 1
  have g2 := HW.out.cell 2
  cases hp : Uq.parse (Uq.print (numsOf H, numsOf P, L)) with
  | none =>
    have HE : Hid (Uq.right (numsOf H, numsOf P, L) = false) := by unfold Hid Uq.right; rw [hp]; rfl
    simp only [hp, Option.getD_none, Option.isSome_none] at hP2
    clear hp hA hn
    go_enter Tryz.func6, Tryz.ntmps6
    go_wp2_with fail
    refine hP1.mono ?_
    rintro e w1 ⟨rfl, hb1⟩
    have hb01 := HBW.out.trans (hb1.mono HBW.out.size)
    clear hP1 hb1 g0 g1 g2
    go_wp2_with fail
    refine (hP2 _).mono ?_
    rintro e w2 ⟨B, d, rfl, hrow, hb2⟩
    have hb02 := hb01.trans (hb2.mono hb01.size)
    clear hP2 hrow hb2
    go_wp2
    go_ret
    exact ⟨ret_bool (by rw [HE.out]), hb02.alloc hb02.size _⟩
  | some v =>
    obtain ⟨vH, vP, vL⟩ := v
    obtain ⟨hvH, hvP⟩ := Uq.parse_bytes hp HPl.out
    have hvL := url_fine hp HPl.out
    obtain ⟨_, _, hl32⟩ := Uq.parse_lens hp
    simp only at hvH hvP hvL hl32
    have HE : Hid (Uq.right (numsOf H, numsOf P, L) = decide (H = strOf vH ∧ P = strOf vP ∧ L = vL)) := by
      unfold Hid Uq.right
      rw [hp, decide_eq_decide]
      constructor
      · intro h
        injection h with h
        injection h with h1 h
        injection h with h2 h3
        exact ⟨by rw [h1, strOf_numsOf], by rw [h2, strOf_numsOf], h3.symm⟩
      · rintro ⟨h1, h2, h3⟩
        rw [h1, h2, h3, numsOf_strOf hvH, numsOf_strOf hvP]
    simp only [hp, Option.getD_some, Option.isSome_some] at hP2
    obtain ⟨SH, eSH⟩ : ∃ SH, strOf vH = SH := ⟨_, rfl⟩
    obtain ⟨SP, eSP⟩ : ∃ SP, strOf vP = SP := ⟨_, rfl⟩
    simp only [eSH, eSP] at hP2
    rw [eSH, eSP] at HE
    obtain ⟨k, ek⟩ : ∃ k, vL.length = k := ⟨_, rfl⟩
    simp only [ek] at hP2
    rw [ek] at hl32
    have Hk := Lib.hid ek
    have Hn := Lib.hid hn
    clear hp hvH hvP eSH eSP ek hn
    go_enter Tryz.func6, Tryz.ntmps6
    go_wp2_with fail
    refine hP1.mono ?_
    rintro e w1 ⟨rfl, hb1⟩
    clear hP1 g0 g1 g2
    go_wp2_with fail
    refine (hP2 _).mono ?_
    rintro e w2 ⟨B, d, rfl, hrow, hb2⟩
    have hb12 := hb1.trans (hb2.mono hb1.size)
    have hb02 := HBW.out.trans (hb12.mono HBW.out.size)
    have hA2 := hA.below hb02 (Nat.le_refl _)
    obtain ⟨g0, g1, g2, _, _, _⟩ := keep3 HW.out hb12
    have hlt2 := HW.out.lt
    have hlt3 : w.heap.size < w2.heap.size := Nat.lt_of_lt_of_le hlt2 hb12.size
    have hSm := refSame_any H P SH SP L vL A B n k c d (w2.alloc (.cells #[.string SH, .string SP, .slice B k d] 24)) Hn.out Hk.out (hA2.alloc _) (hrow.alloc _) hL hvL (by omega)
    have hb3 := hb02.alloc hb02.size (.cells #[.string SH, .string SP, .slice B k d] 24)
    have HB3 := Lib.hid hb3
    obtain ⟨r, er⟩ : ∃ r, decide (H = SH ∧ P = SP ∧ L = vL) = r := ⟨_, rfl⟩
    rw [er] at hSm HE
    clear hP2 hrow hb2 hb1 hb12 hb02 hA hA2 hb3 hlt2 er
    go_wp2_with fail
    refine hSm.mono ?_
    rintro e w4 ⟨rfl, hb4⟩
    have hb5 := HB3.out.trans (hb4.mono HB3.out.size)
    clear hSm hb4
    go_wp2
    go_ret
    exact ⟨ret_bool (by rw [HE.out]), hb5⟩

set_option maxHeartbeats 2000000 in
set_option maxRecDepth 100000 in
theorem lawRight (H P : ByteArray) (L : List (List Nat × List Nat)) (A : Option Addr) (n c : Nat) (w : World) (hn : L.length = n) (hA : Row w A (pcells L)) (hL : Pq.Fine L) (hS : Short L) (hn9 : n ≤ 1048576) (hH : H.size ≤ 1048576) (hP : P.size ≤ 1048576) (hHd : Held w) :
    Calls Tryz.prog 3 #[uval H P A n c] w fun e w' => e = .returned (.bool true) ∧ Below w.heap.size w w' := by
  have hP1 := fun W (h : Row W A (pcells L)) (h' : Held W) => right_any H P L A n c W hn h hL hS hn9 (by omega) (by omega) h'
  have hP2 := fun W (h : Row W A (pcells L)) => refRight_any H P L A n c W hn h hL hS hn9 (by omega) (by omega)
  obtain ⟨T, eT⟩ : ∃ T, Uq.right (numsOf H, numsOf P, L) = T := ⟨_, rfl⟩
  simp only [eT] at hP1 hP2
  have hW := Lies.made w 24 [.string H, .string P, .slice A n c]
  have hA5 := hA.alloc (.cells #[.string H, .string P, .slice A n c] 24)
  have hH5 := hHd.alloc (.cells #[.string H, .string P, .slice A n c] 24)
  have hb5 : Below w.heap.size w (w.alloc (.cells #[.string H, .string P, .slice A n c] 24)) := (Below.refl _ _).alloc (Nat.le_refl _) _
  have hlt5 := hW.lt
  have HK : Hid (∀ W, Below (w.alloc (.cells #[.string H, .string P, .slice A n c] 24)).heap.size (w.alloc (.cells #[.string H, .string P, .slice A n c] 24)) W → W.cell? ⟨w.heap.size, 0, none⟩ = some (.string H) ∧ W.cell? ⟨w.heap.size, 1, none⟩ = some (.string P) ∧ W.cell? ⟨w.heap.size, 2, none⟩ = some (.slice A n c) ∧ Row W A (pcells L) ∧ Held W ∧ Below (w.alloc (.cells #[.string H, .string P, .slice A n c] 24)).heap.size (w.alloc (.cells #[.string H, .string P, .slice A n c] 24)) W) := fun W hb => ⟨(hW.below hb hlt5).cell 0, (hW.below hb hlt5).cell 1, (hW.below hb hlt5).cell 2, hA5.below hb (Nat.le_refl _), hH5.below hb, hb⟩
  by_cases hm : 200 < n
  · have hd : decide ((200 : Int) < (n : Int)) = true := decide_eq_true (by omega)
    have hal := alive_any _ hH5
    clear hP1 hP2 hW hA5 hH5 HK hA hHd hn eT
    go_enter Tryz.func3, Tryz.ntmps3
    go_wp2_with fail
    refine hal.mono ?_
    rintro e w1 ⟨rfl, hb1⟩
    have hb2 := hb5.trans (hb1.mono hb5.size)
    clear hal hb5 hb1
    go_wp2
    go_ret
    exact ⟨rfl, hb2⟩
  · have hd : decide ((200 : Int) < (n : Int)) = false := decide_eq_false (by omega)
    have hrf := Below.refl (w.alloc (.cells #[.string H, .string P, .slice A n c] 24)).heap.size (w.alloc (.cells #[.string H, .string P, .slice A n c] 24))
    obtain ⟨f0, f1, f2, hA6, hH6, _⟩ := HK.out _ hrf
    clear hW hA5 hH5 hA hHd hn eT hlt5
    go_enter Tryz.func3, Tryz.ntmps3
    go_upto_region 3 with (fail)
    generalize (w.alloc (.cells #[.string H, .string P, .slice A n c] 24)) = w5 at *
    have HB5 := Lib.hid hb5
    clear hb5
    go_region_held3 (fun W => W.cell? ⟨w.heap.size, 0, none⟩ = some (.string H) ∧ W.cell? ⟨w.heap.size, 1, none⟩ = some (.string P) ∧ W.cell? ⟨w.heap.size, 2, none⟩ = some (.slice A n c) ∧ Row W A (pcells L) ∧ Held W ∧ Below w5.heap.size w5 W)
      (first
        | (go_split_ands; have hbz := (by assumption : Below w5.heap.size w5 _).trans (hba.mono (by assumption : Below w5.heap.size w5 _).size); exact HK.out _ hbz)
        | (go_split_ands; have hbz := below_drew (by assumption : Below w5.heap.size w5 _); exact HK.out _ hbz)
        | go_keep)
      (first
        | (go_at_call 4; go_split_ands; with_reducible refine (alive_any _ (by assumption)).mono ?_; rintro e wa ⟨rfl, hba⟩)
        | (go_at_call 5; go_split_ands; with_reducible refine (hP1 _ (by assumption) (by assumption)).mono ?_; rintro e wa ⟨rfl, hba⟩)
        | (go_at_call 6; go_split_ands; with_reducible refine (hP2 _ (by assumption)).mono ?_; rintro e wa ⟨rfl, hba⟩))
    all_goals
      go_split_ands
      have hfin : Below w5.heap.size w5 wa := by assumption
      have hb6 := HB5.out.trans (hfin.mono HB5.out.size)
      clear hP1 hP2
      go_wp2
      go_ret
      exact ⟨ret_bool (by simp), hb6⟩
end Go.Proofs.YtejmkijnngkoaaaGreatDoor
