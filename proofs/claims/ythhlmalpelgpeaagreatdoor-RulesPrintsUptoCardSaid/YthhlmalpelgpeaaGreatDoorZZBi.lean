/-
  The document's Print: Bind, function, called.
-/
import Derived.Test.YthhlmalpelgpeaaGreatDoorZZPu
namespace Go.Proofs.YthhlmalpelgpeaaGreatDoor
open Go.RowKit

theorem int11_no {a b : Int} (h : a ≠ b) : decide (a = b) = false ∧ (a == b) = false ∧ (a != b) = true := ⟨decide_eq_false h, beq_false_of_ne h, by rw [bne_iff_ne]; exact h⟩
set_option maxHeartbeats 2000000 in
set_option maxRecDepth 100000 in
theorem refBind_any (op : Int) (w : World) :
    Calls Tryz.prog 48 #[.int .i64 op] w fun e w' => w = w' ∧ e = .returned (.int .i64 (Zq.binds op : Nat)) := by
  obtain ⟨R, eR⟩ : ∃ R, Zq.binds op = R := ⟨_, rfl⟩
  rw [eR]
  rcases Decidable.em (op = 15) with h15 | h15
  · subst h15
    have HQ : Hid ((1 : Nat) = R) := by unfold Hid; rw [← eR]; rfl
    clear eR 
    go_enter Tryz.func48, Tryz.ntmps48
    go_wp2
    go_ret
    exact ⟨rfl, congrArg (fun z : Nat => Ending.returned (.int .i64 z)) HQ.out⟩
  obtain ⟨q15a, q15b, q15c⟩ := int11_no h15
  rcases Decidable.em (op = 14) with h14 | h14
  · subst h14
    have HQ : Hid ((2 : Nat) = R) := by unfold Hid; rw [← eR]; rfl
    clear eR h15
    go_enter Tryz.func48, Tryz.ntmps48
    go_wp2
    go_ret
    exact ⟨rfl, congrArg (fun z : Nat => Ending.returned (.int .i64 z)) HQ.out⟩
  obtain ⟨q14a, q14b, q14c⟩ := int11_no h14
  rcases Decidable.em (op = 13) with h13 | h13
  · subst h13
    have HQ : Hid ((3 : Nat) = R) := by unfold Hid; rw [← eR]; rfl
    clear eR h15 h14
    go_enter Tryz.func48, Tryz.ntmps48
    go_wp2
    go_ret
    exact ⟨rfl, congrArg (fun z : Nat => Ending.returned (.int .i64 z)) HQ.out⟩
  obtain ⟨q13a, q13b, q13c⟩ := int11_no h13
  rcases Decidable.em (op = 10) with h10 | h10
  · subst h10
    have HQ : Hid ((4 : Nat) = R) := by unfold Hid; rw [← eR]; rfl
    clear eR h15 h14 h13
    go_enter Tryz.func48, Tryz.ntmps48
    go_wp2
    go_ret
    exact ⟨rfl, congrArg (fun z : Nat => Ending.returned (.int .i64 z)) HQ.out⟩
  obtain ⟨q10a, q10b, q10c⟩ := int11_no h10
  rcases Decidable.em (op = 11) with h11 | h11
  · subst h11
    have HQ : Hid ((4 : Nat) = R) := by unfold Hid; rw [← eR]; rfl
    clear eR h15 h14 h13 h10
    go_enter Tryz.func48, Tryz.ntmps48
    go_wp2
    go_ret
    exact ⟨rfl, congrArg (fun z : Nat => Ending.returned (.int .i64 z)) HQ.out⟩
  obtain ⟨q11a, q11b, q11c⟩ := int11_no h11
  rcases Decidable.em (op = 12) with h12 | h12
  · subst h12
    have HQ : Hid ((4 : Nat) = R) := by unfold Hid; rw [← eR]; rfl
    clear eR h15 h14 h13 h10 h11
    go_enter Tryz.func48, Tryz.ntmps48
    go_wp2
    go_ret
    exact ⟨rfl, congrArg (fun z : Nat => Ending.returned (.int .i64 z)) HQ.out⟩
  obtain ⟨q12a, q12b, q12c⟩ := int11_no h12
  rcases Decidable.em (op = 5) with h5 | h5
  · subst h5
    have HQ : Hid ((5 : Nat) = R) := by unfold Hid; rw [← eR]; rfl
    clear eR h15 h14 h13 h10 h11 h12
    go_enter Tryz.func48, Tryz.ntmps48
    go_wp2
    go_ret
    exact ⟨rfl, congrArg (fun z : Nat => Ending.returned (.int .i64 z)) HQ.out⟩
  obtain ⟨q5a, q5b, q5c⟩ := int11_no h5
  rcases Decidable.em (op = 16) with h16 | h16
  · subst h16
    have HQ : Hid ((6 : Nat) = R) := by unfold Hid; rw [← eR]; rfl
    clear eR h15 h14 h13 h10 h11 h12 h5
    go_enter Tryz.func48, Tryz.ntmps48
    go_wp2
    go_ret
    exact ⟨rfl, congrArg (fun z : Nat => Ending.returned (.int .i64 z)) HQ.out⟩
  obtain ⟨q16a, q16b, q16c⟩ := int11_no h16
  have HQ : Hid ((7 : Nat) = R) := by unfold Hid; rw [← eR]; unfold Zq.binds; simp [h15, h14, h13, h10, h11, h12, h5, h16]
  clear eR h15 h14 h13 h10 h11 h12 h5 h16
  go_enter Tryz.func48, Tryz.ntmps48
  go_wp2
  go_ret
  exact ⟨rfl, congrArg (fun z : Nat => Ending.returned (.int .i64 z)) HQ.out⟩

theorem refWord_is (t : List Nat) (ht : ∀ x ∈ t, x < 256) : ∀ q : List Nat, (∀ x ∈ q, x < 256) → ∀ l : List UInt8, (strOf q).toList = l → ∀ b : Bool, decide (q = t) = b → (l == (strOf t).toList) = b := fun q hq l hl b h => by
  rw [← hl, str_beq hq ht]
  exact h
set_option maxHeartbeats 4000000 in
set_option maxRecDepth 100000 in
theorem refFunction_any (t : List Nat) (ht : ∀ x ∈ t, x < 256) (w : World) :
    Calls Tryz.prog 68 #[.string (strOf t)] w fun e w' => Below w.heap.size w w' ∧ e = .returned (.int .i64 (Zq.fnOp t)) := by
  obtain ⟨R, eR⟩ : ∃ R, Zq.fnOp t = R := ⟨_, rfl⟩
  have HR := Lib.hid eR
  rw [eR]
  have HW := Lib.hid (refWord_is t ht)
  obtain ⟨W1, eW1⟩ : ∃ W1, W1 = w.alloc (.cells #[.string { data := #[104, 97, 115] }, .string { data := #[108, 111, 119, 101, 114] }, .string { data := #[102, 105, 114, 115, 116] }, .string { data := #[104, 101, 97, 100] }, .string { data := #[116, 97, 105, 108] }, .string { data := #[115, 116, 97, 114, 116, 115] }] 9) := ⟨_, rfl⟩
  have hb1 : Below w.heap.size w W1 := by rw [eW1]; exact (Below.refl _ _).alloc (Nat.le_refl _) _
  have hl1 : Lies W1 w.heap.size 9 [.string { data := #[104, 97, 115] }, .string { data := #[108, 111, 119, 101, 114] }, .string { data := #[102, 105, 114, 115, 116] }, .string { data := #[104, 101, 97, 100] }, .string { data := #[116, 97, 105, 108] }, .string { data := #[115, 116, 97, 114, 116, 115] }] := by rw [eW1]; exact Lies.new_ rfl
  have HB1 := Lib.hid hb1
  have HB2 : Hid (∀ o, Below w.heap.size w (W1.alloc o)) := fun o => below_onZ hb1 ((Below.refl _ _).alloc (Nat.le_refl _) o)
  have HL1 := Lib.hid hl1
  have HW1 := Lib.hid eW1
  clear eR ht hb1 hl1 eW1
  obtain ⟨T, eT⟩ : ∃ T, strOf t = T := ⟨_, rfl⟩
  rw [eT] at HW ⊢
  clear eT
  go_enter Tryz.func68, Tryz.ntmps68
  go_wp2_with fail
  rw [← HW1.out]
  go_loop [7] (fun i => ∃ k : Nat, i = .int .i64 k ∧ k ≤ 6 ∧ Hid (∀ j, j < k → [Zq.wHas, Zq.wLower, Zq.wFirst, Zq.wHead, Zq.wTail, Zq.wStarts][j]? ≠ some t)) (fun i => 6 - (intOf i).toNat)
  case atStart => exact ⟨0, rfl, by decide, fun j hj => absurd hj (Nat.not_lt_zero j)⟩
  case round =>
    obtain ⟨k, rfl, hk, HNO⟩ := hrel
    by_cases hlt : k < 6
    · have hk6 : k = 0 ∨ k = 1 ∨ k = 2 ∨ k = 3 ∨ k = 4 ∨ k = 5 := by omega
      clear hk hlt
      rcases hk6 with rfl | rfl | rfl | rfl | rfl | rfl
      · have c0 := HL1.out.cell 0
        simp only [List.getElem?_cons_zero] at c0
        rcases Decidable.em (Zq.wHas = t) with h | h
        · have e0 := HW.out Zq.wHas (by decide) [104, 97, 115] (by rw [ByteArray.toList_eq]; decide) true (decide_eq_true h)
          have HQ : Hid ((4 : Int) = R) := by unfold Hid; rw [← HR.out, ← h]; rfl
          clear h HNO
          go_wp2
          go_ret
          exact ⟨HB2.out _, congrArg (fun z => Ending.returned (.int .i64 z)) HQ.out⟩
        · have e0 := HW.out Zq.wHas (by decide) [104, 97, 115] (by rw [ByteArray.toList_eq]; decide) false (decide_eq_false h)
          have HQ : Hid (∀ j, j < 1 → [Zq.wHas, Zq.wLower, Zq.wFirst, Zq.wHead, Zq.wTail, Zq.wStarts][j]? ≠ some t) := fun j hj => by
            rcases Nat.lt_or_eq_of_le (Nat.le_of_lt_succ hj) with h' | h'
            · exact HNO.out j h'
            · subst h'; exact fun e => h (Option.some.inj e)
          clear h HNO
          go_wp2
          go_round
          case rel => exact ⟨1, by go_num, by omega, Lib.hid HQ.out⟩
          case measure => simp [intOf]
      · have c0 := HL1.out.cell 1
        simp only [List.getElem?_cons_zero, List.getElem?_cons_succ] at c0
        rcases Decidable.em (Zq.wLower = t) with h | h
        · have e0 := HW.out Zq.wLower (by decide) [108, 111, 119, 101, 114] (by rw [ByteArray.toList_eq]; decide) true (decide_eq_true h)
          have HQ : Hid ((6 : Int) = R) := by unfold Hid; rw [← HR.out, ← h]; rfl
          clear h HNO
          go_wp2
          go_ret
          exact ⟨HB2.out _, congrArg (fun z => Ending.returned (.int .i64 z)) HQ.out⟩
        · have e0 := HW.out Zq.wLower (by decide) [108, 111, 119, 101, 114] (by rw [ByteArray.toList_eq]; decide) false (decide_eq_false h)
          have HQ : Hid (∀ j, j < 2 → [Zq.wHas, Zq.wLower, Zq.wFirst, Zq.wHead, Zq.wTail, Zq.wStarts][j]? ≠ some t) := fun j hj => by
            rcases Nat.lt_or_eq_of_le (Nat.le_of_lt_succ hj) with h' | h'
            · exact HNO.out j h'
            · subst h'; exact fun e => h (Option.some.inj e)
          clear h HNO
          go_wp2
          go_round
          case rel => exact ⟨2, by go_num, by omega, Lib.hid HQ.out⟩
          case measure => simp [intOf]
      · have c0 := HL1.out.cell 2
        simp only [List.getElem?_cons_zero, List.getElem?_cons_succ] at c0
        rcases Decidable.em (Zq.wFirst = t) with h | h
        · have e0 := HW.out Zq.wFirst (by decide) [102, 105, 114, 115, 116] (by rw [ByteArray.toList_eq]; decide) true (decide_eq_true h)
          have HQ : Hid ((7 : Int) = R) := by unfold Hid; rw [← HR.out, ← h]; rfl
          clear h HNO
          go_wp2
          go_ret
          exact ⟨HB2.out _, congrArg (fun z => Ending.returned (.int .i64 z)) HQ.out⟩
        · have e0 := HW.out Zq.wFirst (by decide) [102, 105, 114, 115, 116] (by rw [ByteArray.toList_eq]; decide) false (decide_eq_false h)
          have HQ : Hid (∀ j, j < 3 → [Zq.wHas, Zq.wLower, Zq.wFirst, Zq.wHead, Zq.wTail, Zq.wStarts][j]? ≠ some t) := fun j hj => by
            rcases Nat.lt_or_eq_of_le (Nat.le_of_lt_succ hj) with h' | h'
            · exact HNO.out j h'
            · subst h'; exact fun e => h (Option.some.inj e)
          clear h HNO
          go_wp2
          go_round
          case rel => exact ⟨3, by go_num, by omega, Lib.hid HQ.out⟩
          case measure => simp [intOf]
      · have c0 := HL1.out.cell 3
        simp only [List.getElem?_cons_zero, List.getElem?_cons_succ] at c0
        rcases Decidable.em (Zq.wHead = t) with h | h
        · have e0 := HW.out Zq.wHead (by decide) [104, 101, 97, 100] (by rw [ByteArray.toList_eq]; decide) true (decide_eq_true h)
          have HQ : Hid ((8 : Int) = R) := by unfold Hid; rw [← HR.out, ← h]; rfl
          clear h HNO
          go_wp2
          go_ret
          exact ⟨HB2.out _, congrArg (fun z => Ending.returned (.int .i64 z)) HQ.out⟩
        · have e0 := HW.out Zq.wHead (by decide) [104, 101, 97, 100] (by rw [ByteArray.toList_eq]; decide) false (decide_eq_false h)
          have HQ : Hid (∀ j, j < 4 → [Zq.wHas, Zq.wLower, Zq.wFirst, Zq.wHead, Zq.wTail, Zq.wStarts][j]? ≠ some t) := fun j hj => by
            rcases Nat.lt_or_eq_of_le (Nat.le_of_lt_succ hj) with h' | h'
            · exact HNO.out j h'
            · subst h'; exact fun e => h (Option.some.inj e)
          clear h HNO
          go_wp2
          go_round
          case rel => exact ⟨4, by go_num, by omega, Lib.hid HQ.out⟩
          case measure => simp [intOf]
      · have c0 := HL1.out.cell 4
        simp only [List.getElem?_cons_zero, List.getElem?_cons_succ] at c0
        rcases Decidable.em (Zq.wTail = t) with h | h
        · have e0 := HW.out Zq.wTail (by decide) [116, 97, 105, 108] (by rw [ByteArray.toList_eq]; decide) true (decide_eq_true h)
          have HQ : Hid ((9 : Int) = R) := by unfold Hid; rw [← HR.out, ← h]; rfl
          clear h HNO
          go_wp2
          go_ret
          exact ⟨HB2.out _, congrArg (fun z => Ending.returned (.int .i64 z)) HQ.out⟩
        · have e0 := HW.out Zq.wTail (by decide) [116, 97, 105, 108] (by rw [ByteArray.toList_eq]; decide) false (decide_eq_false h)
          have HQ : Hid (∀ j, j < 5 → [Zq.wHas, Zq.wLower, Zq.wFirst, Zq.wHead, Zq.wTail, Zq.wStarts][j]? ≠ some t) := fun j hj => by
            rcases Nat.lt_or_eq_of_le (Nat.le_of_lt_succ hj) with h' | h'
            · exact HNO.out j h'
            · subst h'; exact fun e => h (Option.some.inj e)
          clear h HNO
          go_wp2
          go_round
          case rel => exact ⟨5, by go_num, by omega, Lib.hid HQ.out⟩
          case measure => simp [intOf]
      · have c0 := HL1.out.cell 5
        simp only [List.getElem?_cons_zero, List.getElem?_cons_succ] at c0
        rcases Decidable.em (Zq.wStarts = t) with h | h
        · have e0 := HW.out Zq.wStarts (by decide) [115, 116, 97, 114, 116, 115] (by rw [ByteArray.toList_eq]; decide) true (decide_eq_true h)
          have HQ : Hid ((17 : Int) = R) := by unfold Hid; rw [← HR.out, ← h]; rfl
          clear h HNO
          go_wp2
          go_ret
          exact ⟨HB2.out _, congrArg (fun z => Ending.returned (.int .i64 z)) HQ.out⟩
        · have e0 := HW.out Zq.wStarts (by decide) [115, 116, 97, 114, 116, 115] (by rw [ByteArray.toList_eq]; decide) false (decide_eq_false h)
          have HQ : Hid (∀ j, j < 6 → [Zq.wHas, Zq.wLower, Zq.wFirst, Zq.wHead, Zq.wTail, Zq.wStarts][j]? ≠ some t) := fun j hj => by
            rcases Nat.lt_or_eq_of_le (Nat.le_of_lt_succ hj) with h' | h'
            · exact HNO.out j h'
            · subst h'; exact fun e => h (Option.some.inj e)
          clear h HNO
          go_wp2
          go_round
          case rel => exact ⟨6, by go_num, by omega, Lib.hid HQ.out⟩
          case measure => simp [intOf]
    · obtain rfl : k = 6 := by omega
      have HQ : Hid ((0 : Int) = R) := by
        have g := HNO.out
        unfold Hid
        rw [← HR.out]
        unfold Zq.fnOp
        rw [if_neg (fun e => g 0 (by decide) (by rw [e]; rfl))]
        rw [if_neg (fun e => g 1 (by decide) (by rw [e]; rfl))]
        rw [if_neg (fun e => g 2 (by decide) (by rw [e]; rfl))]
        rw [if_neg (fun e => g 3 (by decide) (by rw [e]; rfl))]
        rw [if_neg (fun e => g 4 (by decide) (by rw [e]; rfl))]
        rw [if_neg (fun e => g 5 (by decide) (by rw [e]; rfl))]
      clear HNO
      go_wp2
      go_ret
      exact ⟨HB1.out, congrArg (fun z => Ending.returned (.int .i64 z)) HQ.out⟩
end Go.Proofs.YthhlmalpelgpeaaGreatDoor
