/-
  The walks of the laws PairsPrints and PairsAgain.
-/
import Derived.Test.YticepagkbebhbaaDoorPLaws
import Derived.Test.YticepagkbebhbaaDoorPRefN
namespace Go.Proofs.YticepagkbebhbaaDoor
open Go.RowKit

theorem print_bound {L : List (List Nat × List Nat)} (h : Short L) (hn : L.length ≤ 1048576) : (Pq.print L).length ≤ 140737488355328 := by
  have := print_len h
  have h2 := Nat.mul_le_mul_right 6291458 hn
  omega

set_option maxHeartbeats 400000 in
set_option maxRecDepth 100000 in
theorem lawPrints (L : List (List Nat × List Nat)) (A : Option Addr) (c : Nat) (w : World) (hA : Row w A (pcells L)) (hL : Pq.Fine L) (hS : Short L) (hn : L.length ≤ 1048576) :
    Calls Tryd.prog 7 #[.slice A L.length c] w fun e w' => e = .returned (.bool true) ∧ Below w.heap.size w w' := by
  have hE := fun w' (h : Row w' A (pcells L)) => print_any L A c w' h hL hS hn (print_bound hS hn)
  have hR := fun w' (h : Row w' A (pcells L)) => refPrint_any L A c w' h hL hS hn
  obtain ⟨E, eE⟩ : ∃ E, strOf (Pq.print L) = E := ⟨_, rfl⟩
  obtain ⟨n, en⟩ : ∃ n, L.length = n := ⟨_, rfl⟩
  simp only [eE, en] at hE hR
  rw [en] at hn ⊢
  have HE := Lib.hid hE
  have HR := Lib.hid hR
  clear eE en hE hR
  by_cases hm : 400 < n
  · have hd : decide ((400 : Int) < (n : Int)) = true := decide_eq_true (by omega)
    clear hA
    go_enter Tryd.func7, Tryd.ntmps7
    go_wp2_with fail
    refine (alive_any w).mono ?_
    rintro e w1 ⟨rfl, hb1⟩
    go_wp2
    go_ret
    exact ⟨rfl, hb1⟩
  · have hd : decide ((400 : Int) < (n : Int)) = false := decide_eq_false (by omega)
    go_enter Tryd.func7, Tryd.ntmps7
    go_wp2_with fail
    refine (alive_any w).mono ?_
    rintro e w1 ⟨rfl, hb1⟩
    have hA1 := hA.below hb1 (Nat.le_refl _)
    clear hA
    go_wp2_with fail
    refine (HE.out w1 hA1).mono ?_
    rintro e w2 ⟨rfl, hb2⟩
    have hA2 := hA1.below hb2 (Nat.le_refl _)
    have hb02 := hb1.trans (hb2.mono hb1.size)
    clear hb1 hb2 hA1 HE
    go_wp2_with fail
    refine (HR.out w2 hA2).mono ?_
    rintro e w3 ⟨rfl, hb3⟩
    have hb03 := hb02.trans (hb3.mono hb02.size)
    clear hb02 hb3 hA2 HR
    go_wp2
    go_ret
    exact ⟨rfl, hb03⟩

set_option maxHeartbeats 1000000 in
set_option maxRecDepth 100000 in
theorem lawAgain (L : List (List Nat × List Nat)) (A : Option Addr) (c : Nat) (w : World) (hA : Row w A (pcells L)) (hL : Pq.Fine L) (hS : Short L) (hn : L.length ≤ 1048576) :
    Calls Tryd.prog 8 #[.slice A L.length c] w fun e w' => e = .returned (.bool true) ∧ Below w.heap.size w w' := by
  by_cases hm : 32 < L.length
  · obtain ⟨n, en⟩ : ∃ n, L.length = n := ⟨_, rfl⟩
    rw [en] at hn hm ⊢
    have hd : decide ((32 : Int) < (n : Int)) = true := decide_eq_true (by omega)
    clear hA en
    go_enter Tryd.func8, Tryd.ntmps8
    go_wp2_with fail
    refine (alive_any w).mono ?_
    rintro e w1 ⟨rfl, hb1⟩
    go_wp2
    go_ret
    exact ⟨rfl, hb1⟩
  · have hE := print_any L A c w hA hL hS hn (print_bound hS hn)
    have hP := fun w => parse_any (strOf (Pq.print L)) w (by rw [strOf_size]; have := print_len hS; omega)
    unfold ParseEnd at hP
    simp only [numsOf_strOf (Pq.print_lt hL)] at hP
    have hz : (strOf (Pq.print L)).size = (Pq.print L).length := strOf_size _
    by_cases hlong : 4096 < (Pq.print L).length
    · simp only [Pq.parse_long hlong, Option.getD_none, Option.isSome_none] at hP
      obtain ⟨E, eE⟩ : ∃ E, strOf (Pq.print L) = E := ⟨_, rfl⟩
      obtain ⟨n, en⟩ : ∃ n, L.length = n := ⟨_, rfl⟩
      rw [eE] at hE hz
      rw [en] at hE hm hn ⊢
      simp only [eE] at hP
      have hd : decide ((32 : Int) < (n : Int)) = false := decide_eq_false (by omega)
      have hd2 : decide ((4096 : Int) < (E.size : Int)) = true := decide_eq_true (by omega)
      clear eE en hz hA
      go_enter Tryd.func8, Tryd.ntmps8
      go_wp2_with fail
      refine hE.mono ?_
      rintro e w1 ⟨rfl, hb1⟩
      go_wp2_with fail
      refine (hP w1).mono ?_
      rintro e w2 ⟨A2, c2, rfl, _, _, _, hb2⟩
      have hb02 := hb1.trans (hb2.mono hb1.size)
      clear hb1 hb2 hE hP
      go_wp2_with fail
      refine (alive_any w2).mono ?_
      rintro e w3 ⟨rfl, hb3⟩
      have hb03 := hb02.trans (hb3.mono hb02.size)
      clear hb02 hb3
      go_wp2
      go_ret
      exact ⟨rfl, hb03⟩
    · simp only [Pq.parse_print hL (by omega) (by omega), Option.getD_some, Option.isSome_some] at hP
      have hS2 := fun A B cA cB w hA hB => same_any L L A B cA cB w hA hB hL hL hn
      rw [decide_eq_true rfl] at hS2
      obtain ⟨E, eE⟩ : ∃ E, strOf (Pq.print L) = E := ⟨_, rfl⟩
      obtain ⟨n, en⟩ : ∃ n, L.length = n := ⟨_, rfl⟩
      rw [eE] at hE hz
      rw [en] at hE hm hn ⊢
      simp only [eE, en] at hP hS2
      have HS2 := Lib.hid hS2
      have hd : decide ((32 : Int) < (n : Int)) = false := decide_eq_false (by omega)
      have hd2 : decide ((4096 : Int) < (E.size : Int)) = false := decide_eq_false (by omega)
      have hE4 : E.size ≤ 4096 := by omega
      clear eE en hz hS2 hlong
      go_enter Tryd.func8, Tryd.ntmps8
      go_wp2_with fail
      refine hE.mono ?_
      rintro e w1 ⟨rfl, hb1⟩
      have hA1 := hA.below hb1 (Nat.le_refl _)
      clear hA hE
      go_wp2_with fail
      refine (hP w1).mono ?_
      rintro e w2 ⟨A2, c2, rfl, hr2, _, _, hb2⟩
      have hA2 := hA1.below hb2 (Nat.le_refl _)
      have hb02 := hb1.trans (hb2.mono hb1.size)
      clear hb1 hb2 hP hA1
      go_wp2_with fail
      refine (alive_any w2).mono ?_
      rintro e w3 ⟨rfl, hb3⟩
      have hA3 := hA2.below hb3 (Nat.le_refl _)
      have hr3 := hr2.below hb3 (Nat.le_refl _)
      have hb03 := hb02.trans (hb3.mono hb02.size)
      clear hb02 hb3 hA2 hr2
      go_wp2_with fail
      refine (HS2.out A A2 c c2 w3 hA3 hr3).mono ?_
      rintro e w4 ⟨rfl, hb4⟩
      have hb04 := hb03.trans (hb4.mono hb03.size)
      clear hb03 hb4 hA3 hr3
      go_wp2
      go_ret
      exact ⟨rfl, hb04⟩
end Go.Proofs.YticepagkbebhbaaDoor
