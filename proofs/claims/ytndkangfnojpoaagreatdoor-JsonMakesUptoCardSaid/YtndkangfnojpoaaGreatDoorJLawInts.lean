/-
  The law JsonInts.
-/
import Derived.Test.YtndkangfnojpoaaGreatDoorJIntP
import Derived.Test.YtndkangfnojpoaaGreatDoorJDec
import Derived.Test.YtndkangfnojpoaaGreatDoorJMakers
import Derived.Test.YtndkangfnojpoaaGreatDoorQK
import Derived.Deep.RegionHeld3
namespace Go.Proofs.YtndkangfnojpoaaGreatDoor
open Go.RowKit

theorem decimal_len {n : Int} (h0 : -9223372036854775808 ≤ n) (h1 : n ≤ 9223372036854775807) : (Jq.decimal n).length ≤ 21 := by
  unfold Jq.decimal
  split
  · have := digits_len 19 n.natAbs (by omega)
    rw [List.length_cons]; omega
  · have := digits_len 19 n.toNat (by omega)
    omega
theorem decimal_byte (n : Int) : ∀ x ∈ Jq.decimal n, x < 256 := by
  unfold Jq.decimal
  split
  · intro x hx
    rcases List.mem_cons.1 hx with rfl | hx
    · decide
    · exact digits_byte _ x hx
  · exact digits_byte _
theorem isJ_int (w : World) (ok : Nat → Prop) {n : Int} (h0 : -9223372036854775808 ≤ n) (h1 : n ≤ 9223372036854775807) : IsJ w ok (jv 2 false n ByteArray.empty nilS nilS) (Jq.intJ n) :=
  isJ_plain (k := 2) (n := n) (b := false) (t := []) w ok (by decide) ⟨h0, h1⟩ ⟨Nat.zero_le _, fun _ h => nomatch h⟩
theorem strs_self (s : ByteArray) : (s.toList == s.toList) = true := by simp

set_option maxHeartbeats 8000000 in
set_option maxRecDepth 100000 in
theorem lawInts_any (n : Int) (h0 : -9223372036854775808 ≤ n) (h1 : n ≤ 9223372036854775807) (w : World) (hH : Held w) :
    Calls Tryz.prog 8 #[.int .i64 n] w (IsTrue w) := by
  have hD := fun w => decimal_any n h0 h1 w
  have hl := decimal_len h0 h1
  have hby := decimal_byte n
  have hPa := fun w (h : Held w) => parseJ_any (strOf (Jq.decimal n)) w h
  rw [numsOf_strOf hby] at hPa
  have hI := fun w => intMade_any n w
  have hPr := fun w (h : Held w) => print_any _ (Jq.intJ n) w h (isJ_int w (fun _ => True) h0 h1)
  have HH := Lib.hid hH
  have HD := Lib.hid hD
  have HI := Lib.hid hI
  have HPr := Lib.hid hPr
  have hD0 := hD w
  have HPa := Lib.hid hPa
  clear hH hI hPr hD hPa hby
  by_cases hr : -9007199254740991 ≤ n ∧ n ≤ 9007199254740991
  · have hp := Jq.parse_int hr (by omega)
    have hpr := Jq.print_int hr (by omega)
    have d1 : decide ((9007199254740991 : Int) < n) = false := decide_eq_false (by omega)
    have d2 : decide (n < (-9007199254740991 : Int)) = false := decide_eq_false (by omega)
    have HP := Lib.hid hp
    have HQ := Lib.hid hpr
    clear hr hp hpr hl
    go_enter Tryz.func8, Tryz.ntmps8
    go_wp2_with fail
    refine hD0.mono ?_
    rintro e w1 ⟨rfl, hb1⟩
    have hQ := HPa.out w1 (HH.out.below hb1)
    clear hD0
    go_wp2_with fail
    refine hQ.mono ?_
    intro e w2 hh
    clear hQ
    rcases ParseEndJ.cases hh with ⟨y, u, hp, rfl, hJ2, hb2⟩ | ⟨m, hp, _⟩
    rotate_left
    · rw [HP.out] at hp; cases hp
    rw [HP.out] at hp
    injection hp with hp
    subst hp
    obtain ⟨A1, c1, A2, c2, rfl⟩ : ∃ A1 c1 A2 c2, u = jv 2 false n ByteArray.empty (.slice A1 0 c1) (.slice A2 0 c2) := hJ2.form
    obtain ⟨W2, eW2⟩ : ∃ W2, W2 = w2.alloc (.cells #[.int .i64 2, .bool false, .int .i64 n, .string ByteArray.empty, .slice A1 0 c1, .slice A2 0 c2] 25) := ⟨_, rfl⟩
    have hbW : Below w2.heap.size w2 W2 := by rw [eW2]; exact (Below.refl _ _).alloc (Nat.le_refl _) _
    have hlW : Lies W2 w2.heap.size 25 [.int .i64 2, .bool false, .int .i64 n, .string ByteArray.empty, .slice A1 0 c1, .slice A2 0 c2] := by rw [eW2]; exact Lies.new_ rfl
    have hb3 := below_more (below_more hb1 hb2) hbW
    have hIm := HI.out W2
    have HL := Lib.hid hlW
    have HJ := Lib.hid (hJ2.on hbW)
    have HB3 := Lib.hid hb3
    rw [eW2] at hIm
    have HW2 := Lib.hid eW2
    clear hh hb1 hb2 hb3 hbW hlW hJ2 eW2
    go_wp2_with fail
    refine hIm.mono ?_
    rintro e w3 ⟨rfl, hb4⟩
    clear hIm
    rw [← HW2.out] at hb4
    have hb5 := below_more HB3.out hb4
    have hPr := HPr.out w3 (HH.out.below hb5)
    rw [HQ.out] at hPr
    go_wp2_with fail
    refine hPr.mono ?_
    intro e w4 hh
    clear hPr
    obtain ⟨hb6, rfl, _, _⟩ := hh
    have hb7 := below_more hb5 hb6
    have HL4 := Lib.hid ((HL.out.below hb4 HL.out.lt).below hb6 (HL.out.below hb4 HL.out.lt).lt)
    have HJ4 := Lib.hid ((HJ.out.on hb4).on hb6)
    have HK : Hid (∀ W, Below w4.heap.size w4 W → (W.cell? ⟨w2.heap.size, 0, none⟩ = some (.int .i64 2) ∧ W.cell? ⟨w2.heap.size, 1, none⟩ = some (.bool false) ∧ W.cell? ⟨w2.heap.size, 2, none⟩ = some (.int .i64 n) ∧ W.cell? ⟨w2.heap.size, 3, none⟩ = some (.string ByteArray.empty) ∧ W.cell? ⟨w2.heap.size, 4, none⟩ = some (.slice A1 0 c1) ∧ W.cell? ⟨w2.heap.size, 5, none⟩ = some (.slice A2 0 c2)) ∧
        IsJ W (w1.heap.size ≤ ·) (jv 2 false n ByteArray.empty (.slice A1 0 c1) (.slice A2 0 c2)) (Jq.intJ n) ∧ Held W ∧ Below w4.heap.size w4 W) :=
      fun W hb => ⟨(HL4.out.below hb HL4.out.lt).six.1, HJ4.out.on hb, (HH.out.below hb7).below hb, hb⟩
    have hRI := fun W => refInt_any n W
    have hSm := fun W (hj : IsJ W (w1.heap.size ≤ ·) (jv 2 false n ByteArray.empty (.slice A1 0 c1) (.slice A2 0 c2)) (Jq.intJ n)) => (refSame_any (Jq.intJ n) (Jq.intJ n) _ _ W hj (isJ_int W (fun _ => True) h0 h1)).mono (fun e w' (hh : Tells (Jq.intJ n = Jq.intJ n) W e w') => (show e = .returned (.bool true) ∧ Below W.heap.size W w' by
      obtain ⟨hb, ⟨_, he⟩ | ⟨hn, _⟩⟩ := hh
      · exact ⟨he, hb⟩
      · exact absurd rfl hn))
    have hDe := HD.out
    have hS := strs_self (strOf (Jq.decimal n))
    generalize strOf (Jq.decimal n) = DS at *
    have HB7 := Lib.hid hb7
    obtain ⟨⟨x0, x1, x2, x3, x4, x5⟩, jx, hHx, hrf⟩ := HK.out w4 (Below.refl _ _)
    clear hb4 hb5 hb6 hb7 HL4 HJ4 HL HJ HB3 HW2 HI HPr HPa HD HP HQ
    go_upto_region 5 with (fail)
    go_region_held3 (fun W => (W.cell? ⟨w2.heap.size, 0, none⟩ = some (.int .i64 2) ∧ W.cell? ⟨w2.heap.size, 1, none⟩ = some (.bool false) ∧ W.cell? ⟨w2.heap.size, 2, none⟩ = some (.int .i64 n) ∧ W.cell? ⟨w2.heap.size, 3, none⟩ = some (.string ByteArray.empty) ∧ W.cell? ⟨w2.heap.size, 4, none⟩ = some (.slice A1 0 c1) ∧ W.cell? ⟨w2.heap.size, 5, none⟩ = some (.slice A2 0 c2)) ∧
        IsJ W (w1.heap.size ≤ ·) (jv 2 false n ByteArray.empty (.slice A1 0 c1) (.slice A2 0 c2)) (Jq.intJ n) ∧ Held W ∧ Below w4.heap.size w4 W)
      (first
        | (go_split_ands; have hbz := (by assumption : Below w4.heap.size w4 _).trans (hba.mono (by assumption : Below w4.heap.size w4 _).size); exact HK.out _ hbz)
        | (go_split_ands; have hbz := (by assumption : Below w4.heap.size w4 _).drew; exact HK.out _ hbz)
        | go_keep)
      (first
        | (go_at_call 12; go_split_ands; with_reducible refine (hSm _ (by assumption)).mono ?_; rintro e wa ⟨rfl, hba⟩)
        | (go_at_call 24; go_split_ands; with_reducible refine (hRI _).mono ?_; rintro e wa ⟨rfl, hba⟩)
        | (go_at_call 25; go_split_ands; with_reducible refine (hDe _).mono ?_; rintro e wa ⟨rfl, hba⟩)
        | (go_at_call 11; go_split_ands; with_reducible refine (alive_any _ (by assumption)).mono ?_; rintro e wa ⟨rfl, hba⟩))
    all_goals
      go_split_ands
      have hfin : Below w4.heap.size w4 wa := by assumption
      have hb6 := below_more HB7.out hfin
      clear hRI hSm hDe
      go_wp2
      go_ret
      exact ⟨rfl, hb6⟩
  · have hp := Jq.parse_big (n := n) (by omega) (by omega)
    have hpr := Jq.print_big (n := n) (by omega)
    have hdd : decide ((9007199254740991 : Int) < n) = true ∨ (decide ((9007199254740991 : Int) < n) = false ∧ decide (n < (-9007199254740991 : Int)) = true) := by
      by_cases h : (9007199254740991 : Int) < n
      · exact .inl (decide_eq_true h)
      · exact .inr ⟨decide_eq_false h, decide_eq_true (by omega)⟩
    have HP := Lib.hid hp
    have HQ := Lib.hid hpr
    clear hr hp hpr hl
    go_enter Tryz.func8, Tryz.ntmps8
    go_wp2_with fail
    refine hD0.mono ?_
    rintro e w1 ⟨rfl, hb1⟩
    have hQ := HPa.out w1 (HH.out.below hb1)
    clear hD0
    go_wp2_with fail
    refine hQ.mono ?_
    intro e w2 hh
    clear hQ
    rcases ParseEndJ.cases hh with ⟨y, u, hp, _⟩ | ⟨m, hp, rfl, _, hb2⟩
    · rw [HP.out] at hp; cases hp
    rw [HP.out] at hp
    injection hp with hp
    subst hp
    have hb3 := below_alloc (below_more hb1 hb2) (.cells #[.int .i64 0, .bool false, .int .i64 0, .string ByteArray.empty, nilS, nilS] 25)
    have hIm := HI.out (w2.alloc (.cells #[.int .i64 0, .bool false, .int .i64 0, .string ByteArray.empty, nilS, nilS] 25))
    clear hh hb1 hb2
    go_wp2_with fail
    refine hIm.mono ?_
    rintro e w3 ⟨rfl, hb4⟩
    clear hIm
    have hb5 := below_more hb3 hb4
    have hPr := HPr.out w3 (HH.out.below hb5)
    rw [HQ.out] at hPr
    clear hb3 hb4
    go_wp2_with fail
    refine hPr.mono ?_
    intro e w4 hh
    clear hPr
    obtain ⟨hb6, hh⟩ := hh
    obtain rfl : e = .returned (.tuple #[.string ByteArray.empty, .bool false]) := hh
    have hb7 := below_more hb5 hb6
    have hA := alive_any w4 (HH.out.below hb7)
    clear hb5 hb6
    rcases hdd with d1 | ⟨d1, d2⟩
    all_goals
      go_wp2_with fail
      refine hA.mono ?_
      rintro e w5 ⟨rfl, hb8⟩
      have HE : Hid (IsTrue w (.returned (.bool true)) w5) := ⟨rfl, below_more hb7 hb8⟩
      clear hA hb7 hb8
      go_wp2
      go_ret
      exact HE.out
end Go.Proofs.YtndkangfnojpoaaGreatDoor
