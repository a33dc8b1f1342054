/-
  What an operator makes of its operands' types: the document's made.
-/
import Derived.Test.YtgoecghakiihpaaDoorKVal
namespace Go.Proofs.YtgoecghakiihpaaDoor
open Go.RowKit

theorem int_no {a b : Int} (h : a ≠ b) : decide (a = b) = false ∧ (a == b) = false ∧ (a != b) = true := ⟨decide_eq_false h, beq_false_of_ne h, by rw [bne_iff_ne]; exact h⟩
theorem int_yes {a b : Int} (h : a = b) : decide (a = b) = true ∧ (a == b) = true ∧ (a != b) = false := by subst h; simp
set_option maxHeartbeats 2000000 in
set_option maxRecDepth 100000 in
theorem refMade_any (op a b : Int) (w : World) :
    Calls Tryd.prog 16 #[.int .i64 op, .int .i64 a, .int .i64 b] w fun e w' => w = w' ∧ e = .returned (.int .i64 (Tq.made op a b)) := by
  obtain ⟨R, eR⟩ : ∃ R, Tq.made op a b = R := ⟨_, rfl⟩
  rw [eR]
  by_cases h5 : op = 5
  · subst h5
    rcases Decidable.em (¬ a = 1) with g0 | g0
    · have HQ : Hid ((0 : Int) = R) := by unfold Hid; rw [← eR]; unfold Tq.made; simp [g0]
      obtain ⟨f0a, f0b, f0c⟩ := int_no g0
      clear eR
      clear g0
      go_enter Tryd.func16, Tryd.ntmps16
      go_wp2
      go_ret
      exact ⟨rfl, congrArg (fun z => Ending.returned (.int .i64 z)) HQ.out⟩
    have g0 := Decidable.not_not.1 g0
    obtain ⟨f0a, f0b, f0c⟩ := int_yes g0
    rcases Decidable.em (¬ b = 1) with g1 | g1
    · have HQ : Hid ((0 : Int) = R) := by unfold Hid; rw [← eR]; unfold Tq.made; simp [g0, g1]
      obtain ⟨f1a, f1b, f1c⟩ := int_no g1
      clear eR
      clear g1
      go_enter Tryd.func16, Tryd.ntmps16
      go_wp2
      go_ret
      exact ⟨rfl, congrArg (fun z => Ending.returned (.int .i64 z)) HQ.out⟩
    have g1 := Decidable.not_not.1 g1
    obtain ⟨f1a, f1b, f1c⟩ := int_yes g1
    have HQ : Hid ((1 : Int) = R) := by unfold Hid; rw [← eR]; unfold Tq.made; simp [g0, g1]
    clear eR g0 g1
    go_enter Tryd.func16, Tryd.ntmps16
    go_wp2
    go_ret
    exact ⟨rfl, congrArg (fun z => Ending.returned (.int .i64 z)) HQ.out⟩
  obtain ⟨q5a, q5b, q5c⟩ := int_no h5
  by_cases h6 : op = 6
  · subst h6
    rcases Decidable.em (¬ a = 1) with g0 | g0
    · have HQ : Hid ((0 : Int) = R) := by unfold Hid; rw [← eR]; unfold Tq.made; simp [g0]
      obtain ⟨f0a, f0b, f0c⟩ := int_no g0
      clear eR
      clear g0
      go_enter Tryd.func16, Tryd.ntmps16
      go_wp2
      go_ret
      exact ⟨rfl, congrArg (fun z => Ending.returned (.int .i64 z)) HQ.out⟩
    have g0 := Decidable.not_not.1 g0
    obtain ⟨f0a, f0b, f0c⟩ := int_yes g0
    have HQ : Hid ((1 : Int) = R) := by unfold Hid; rw [← eR]; unfold Tq.made; simp [g0]
    clear eR g0
    go_enter Tryd.func16, Tryd.ntmps16
    go_wp2
    go_ret
    exact ⟨rfl, congrArg (fun z => Ending.returned (.int .i64 z)) HQ.out⟩
  obtain ⟨q6a, q6b, q6c⟩ := int_no h6
  by_cases h8 : op = 8
  · subst h8
    rcases Decidable.em (¬ a = 1) with g0 | g0
    · have HQ : Hid ((0 : Int) = R) := by unfold Hid; rw [← eR]; unfold Tq.made; simp [g0]
      obtain ⟨f0a, f0b, f0c⟩ := int_no g0
      clear eR
      clear g0
      go_enter Tryd.func16, Tryd.ntmps16
      go_wp2
      go_ret
      exact ⟨rfl, congrArg (fun z => Ending.returned (.int .i64 z)) HQ.out⟩
    have g0 := Decidable.not_not.1 g0
    obtain ⟨f0a, f0b, f0c⟩ := int_yes g0
    have HQ : Hid ((1 : Int) = R) := by unfold Hid; rw [← eR]; unfold Tq.made; simp [g0]
    clear eR g0
    go_enter Tryd.func16, Tryd.ntmps16
    go_wp2
    go_ret
    exact ⟨rfl, congrArg (fun z => Ending.returned (.int .i64 z)) HQ.out⟩
  obtain ⟨q8a, q8b, q8c⟩ := int_no h8
  by_cases h9 : op = 9
  · subst h9
    rcases Decidable.em (¬ a = 1) with g0 | g0
    · have HQ : Hid ((0 : Int) = R) := by unfold Hid; rw [← eR]; unfold Tq.made; simp [g0]
      obtain ⟨f0a, f0b, f0c⟩ := int_no g0
      clear eR
      clear g0
      go_enter Tryd.func16, Tryd.ntmps16
      go_wp2
      go_ret
      exact ⟨rfl, congrArg (fun z => Ending.returned (.int .i64 z)) HQ.out⟩
    have g0 := Decidable.not_not.1 g0
    obtain ⟨f0a, f0b, f0c⟩ := int_yes g0
    have HQ : Hid ((1 : Int) = R) := by unfold Hid; rw [← eR]; unfold Tq.made; simp [g0]
    clear eR g0
    go_enter Tryd.func16, Tryd.ntmps16
    go_wp2
    go_ret
    exact ⟨rfl, congrArg (fun z => Ending.returned (.int .i64 z)) HQ.out⟩
  obtain ⟨q9a, q9b, q9c⟩ := int_no h9
  by_cases h7 : op = 7
  · subst h7
    rcases Decidable.em (¬ a = 4) with g0 | g0
    · have HQ : Hid ((0 : Int) = R) := by unfold Hid; rw [← eR]; unfold Tq.made; simp [g0]
      obtain ⟨f0a, f0b, f0c⟩ := int_no g0
      clear eR
      clear g0
      go_enter Tryd.func16, Tryd.ntmps16
      go_wp2
      go_ret
      exact ⟨rfl, congrArg (fun z => Ending.returned (.int .i64 z)) HQ.out⟩
    have g0 := Decidable.not_not.1 g0
    obtain ⟨f0a, f0b, f0c⟩ := int_yes g0
    have HQ : Hid ((1 : Int) = R) := by unfold Hid; rw [← eR]; unfold Tq.made; simp [g0]
    clear eR g0
    go_enter Tryd.func16, Tryd.ntmps16
    go_wp2
    go_ret
    exact ⟨rfl, congrArg (fun z => Ending.returned (.int .i64 z)) HQ.out⟩
  obtain ⟨q7a, q7b, q7c⟩ := int_no h7
  by_cases h10 : op = 10
  · subst h10
    rcases Decidable.em (¬ a = b) with g0 | g0
    · have HQ : Hid ((0 : Int) = R) := by unfold Hid; rw [← eR]; unfold Tq.made; simp [g0]
      obtain ⟨f0a, f0b, f0c⟩ := int_no g0
      clear eR
      clear g0
      go_enter Tryd.func16, Tryd.ntmps16
      go_wp2
      go_ret
      exact ⟨rfl, congrArg (fun z => Ending.returned (.int .i64 z)) HQ.out⟩
    have g0 := Decidable.not_not.1 g0
    subst g0
    by_cases g1 : a = 0
    · have HQ : Hid ((0 : Int) = R) := by unfold Hid; rw [← eR]; unfold Tq.made; simp [g1]
      obtain ⟨f1a, f1b, f1c⟩ := int_yes g1
      clear eR
      clear g1
      go_enter Tryd.func16, Tryd.ntmps16
      go_wp2
      go_ret
      exact ⟨rfl, congrArg (fun z => Ending.returned (.int .i64 z)) HQ.out⟩
    obtain ⟨f1a, f1b, f1c⟩ := int_no g1
    by_cases g2 : a = 4
    · have HQ : Hid ((0 : Int) = R) := by unfold Hid; rw [← eR]; unfold Tq.made; simp [g2]
      obtain ⟨f2a, f2b, f2c⟩ := int_yes g2
      clear eR
      clear g2
      go_enter Tryd.func16, Tryd.ntmps16
      go_wp2
      go_ret
      exact ⟨rfl, congrArg (fun z => Ending.returned (.int .i64 z)) HQ.out⟩
    obtain ⟨f2a, f2b, f2c⟩ := int_no g2
    have HQ : Hid ((3 : Int) = R) := by unfold Hid; rw [← eR]; unfold Tq.made; simp [g1, g2]
    clear eR g1 g2
    go_enter Tryd.func16, Tryd.ntmps16
    go_wp2
    go_ret
    exact ⟨rfl, congrArg (fun z => Ending.returned (.int .i64 z)) HQ.out⟩
  obtain ⟨q10a, q10b, q10c⟩ := int_no h10
  by_cases h11 : op = 11
  · subst h11
    rcases Decidable.em (¬ a = 2) with g0 | g0
    · have HQ : Hid ((0 : Int) = R) := by unfold Hid; rw [← eR]; unfold Tq.made; simp [g0]
      obtain ⟨f0a, f0b, f0c⟩ := int_no g0
      clear eR
      clear g0
      go_enter Tryd.func16, Tryd.ntmps16
      go_wp2
      go_ret
      exact ⟨rfl, congrArg (fun z => Ending.returned (.int .i64 z)) HQ.out⟩
    have g0 := Decidable.not_not.1 g0
    obtain ⟨f0a, f0b, f0c⟩ := int_yes g0
    rcases Decidable.em (¬ b = 2) with g1 | g1
    · have HQ : Hid ((0 : Int) = R) := by unfold Hid; rw [← eR]; unfold Tq.made; simp [g0, g1]
      obtain ⟨f1a, f1b, f1c⟩ := int_no g1
      clear eR
      clear g1
      go_enter Tryd.func16, Tryd.ntmps16
      go_wp2
      go_ret
      exact ⟨rfl, congrArg (fun z => Ending.returned (.int .i64 z)) HQ.out⟩
    have g1 := Decidable.not_not.1 g1
    obtain ⟨f1a, f1b, f1c⟩ := int_yes g1
    have HQ : Hid ((3 : Int) = R) := by unfold Hid; rw [← eR]; unfold Tq.made; simp [g0, g1]
    clear eR g0 g1
    go_enter Tryd.func16, Tryd.ntmps16
    go_wp2
    go_ret
    exact ⟨rfl, congrArg (fun z => Ending.returned (.int .i64 z)) HQ.out⟩
  obtain ⟨q11a, q11b, q11c⟩ := int_no h11
  by_cases h12 : op = 12
  · subst h12
    rcases Decidable.em (¬ a = 1) with g0 | g0
    · have HQ : Hid ((0 : Int) = R) := by unfold Hid; rw [← eR]; unfold Tq.made; simp [g0]
      obtain ⟨f0a, f0b, f0c⟩ := int_no g0
      clear eR
      clear g0
      go_enter Tryd.func16, Tryd.ntmps16
      go_wp2
      go_ret
      exact ⟨rfl, congrArg (fun z => Ending.returned (.int .i64 z)) HQ.out⟩
    have g0 := Decidable.not_not.1 g0
    obtain ⟨f0a, f0b, f0c⟩ := int_yes g0
    rcases Decidable.em (¬ b = 4) with g1 | g1
    · have HQ : Hid ((0 : Int) = R) := by unfold Hid; rw [← eR]; unfold Tq.made; simp [g0, g1]
      obtain ⟨f1a, f1b, f1c⟩ := int_no g1
      clear eR
      clear g1
      go_enter Tryd.func16, Tryd.ntmps16
      go_wp2
      go_ret
      exact ⟨rfl, congrArg (fun z => Ending.returned (.int .i64 z)) HQ.out⟩
    have g1 := Decidable.not_not.1 g1
    obtain ⟨f1a, f1b, f1c⟩ := int_yes g1
    have HQ : Hid ((3 : Int) = R) := by unfold Hid; rw [← eR]; unfold Tq.made; simp [g0, g1]
    clear eR g0 g1
    go_enter Tryd.func16, Tryd.ntmps16
    go_wp2
    go_ret
    exact ⟨rfl, congrArg (fun z => Ending.returned (.int .i64 z)) HQ.out⟩
  obtain ⟨q12a, q12b, q12c⟩ := int_no h12
  by_cases h17 : op = 17
  · subst h17
    rcases Decidable.em (¬ a = 1) with g0 | g0
    · have HQ : Hid ((0 : Int) = R) := by unfold Hid; rw [← eR]; unfold Tq.made; simp [g0]
      obtain ⟨f0a, f0b, f0c⟩ := int_no g0
      clear eR
      clear g0
      go_enter Tryd.func16, Tryd.ntmps16
      go_wp2
      go_ret
      exact ⟨rfl, congrArg (fun z => Ending.returned (.int .i64 z)) HQ.out⟩
    have g0 := Decidable.not_not.1 g0
    obtain ⟨f0a, f0b, f0c⟩ := int_yes g0
    rcases Decidable.em (¬ b = 1) with g1 | g1
    · have HQ : Hid ((0 : Int) = R) := by unfold Hid; rw [← eR]; unfold Tq.made; simp [g0, g1]
      obtain ⟨f1a, f1b, f1c⟩ := int_no g1
      clear eR
      clear g1
      go_enter Tryd.func16, Tryd.ntmps16
      go_wp2
      go_ret
      exact ⟨rfl, congrArg (fun z => Ending.returned (.int .i64 z)) HQ.out⟩
    have g1 := Decidable.not_not.1 g1
    obtain ⟨f1a, f1b, f1c⟩ := int_yes g1
    have HQ : Hid ((3 : Int) = R) := by unfold Hid; rw [← eR]; unfold Tq.made; simp [g0, g1]
    clear eR g0 g1
    go_enter Tryd.func16, Tryd.ntmps16
    go_wp2
    go_ret
    exact ⟨rfl, congrArg (fun z => Ending.returned (.int .i64 z)) HQ.out⟩
  obtain ⟨q17a, q17b, q17c⟩ := int_no h17
  by_cases h13 : op = 13
  · subst h13
    rcases Decidable.em (¬ a = 3) with g0 | g0
    · have HQ : Hid ((0 : Int) = R) := by unfold Hid; rw [← eR]; unfold Tq.made; simp [g0]
      obtain ⟨f0a, f0b, f0c⟩ := int_no g0
      clear eR
      clear g0
      go_enter Tryd.func16, Tryd.ntmps16
      go_wp2
      go_ret
      exact ⟨rfl, congrArg (fun z => Ending.returned (.int .i64 z)) HQ.out⟩
    have g0 := Decidable.not_not.1 g0
    obtain ⟨f0a, f0b, f0c⟩ := int_yes g0
    have HQ : Hid ((3 : Int) = R) := by unfold Hid; rw [← eR]; unfold Tq.made; simp [g0]
    clear eR g0
    go_enter Tryd.func16, Tryd.ntmps16
    go_wp2
    go_ret
    exact ⟨rfl, congrArg (fun z => Ending.returned (.int .i64 z)) HQ.out⟩
  obtain ⟨q13a, q13b, q13c⟩ := int_no h13
  by_cases h14 : op = 14
  · subst h14
    rcases Decidable.em (¬ a = 3) with g0 | g0
    · have HQ : Hid ((0 : Int) = R) := by unfold Hid; rw [← eR]; unfold Tq.made; simp [g0]
      obtain ⟨f0a, f0b, f0c⟩ := int_no g0
      clear eR
      clear g0
      go_enter Tryd.func16, Tryd.ntmps16
      go_wp2
      go_ret
      exact ⟨rfl, congrArg (fun z => Ending.returned (.int .i64 z)) HQ.out⟩
    have g0 := Decidable.not_not.1 g0
    obtain ⟨f0a, f0b, f0c⟩ := int_yes g0
    rcases Decidable.em (¬ b = 3) with g1 | g1
    · have HQ : Hid ((0 : Int) = R) := by unfold Hid; rw [← eR]; unfold Tq.made; simp [g0, g1]
      obtain ⟨f1a, f1b, f1c⟩ := int_no g1
      clear eR
      clear g1
      go_enter Tryd.func16, Tryd.ntmps16
      go_wp2
      go_ret
      exact ⟨rfl, congrArg (fun z => Ending.returned (.int .i64 z)) HQ.out⟩
    have g1 := Decidable.not_not.1 g1
    obtain ⟨f1a, f1b, f1c⟩ := int_yes g1
    have HQ : Hid ((3 : Int) = R) := by unfold Hid; rw [← eR]; unfold Tq.made; simp [g0, g1]
    clear eR g0 g1
    go_enter Tryd.func16, Tryd.ntmps16
    go_wp2
    go_ret
    exact ⟨rfl, congrArg (fun z => Ending.returned (.int .i64 z)) HQ.out⟩
  obtain ⟨q14a, q14b, q14c⟩ := int_no h14
  by_cases h15 : op = 15
  · subst h15
    rcases Decidable.em (¬ a = 3) with g0 | g0
    · have HQ : Hid ((0 : Int) = R) := by unfold Hid; rw [← eR]; unfold Tq.made; simp [g0]
      obtain ⟨f0a, f0b, f0c⟩ := int_no g0
      clear eR
      clear g0
      go_enter Tryd.func16, Tryd.ntmps16
      go_wp2
      go_ret
      exact ⟨rfl, congrArg (fun z => Ending.returned (.int .i64 z)) HQ.out⟩
    have g0 := Decidable.not_not.1 g0
    obtain ⟨f0a, f0b, f0c⟩ := int_yes g0
    rcases Decidable.em (¬ b = 3) with g1 | g1
    · have HQ : Hid ((0 : Int) = R) := by unfold Hid; rw [← eR]; unfold Tq.made; simp [g0, g1]
      obtain ⟨f1a, f1b, f1c⟩ := int_no g1
      clear eR
      clear g1
      go_enter Tryd.func16, Tryd.ntmps16
      go_wp2
      go_ret
      exact ⟨rfl, congrArg (fun z => Ending.returned (.int .i64 z)) HQ.out⟩
    have g1 := Decidable.not_not.1 g1
    obtain ⟨f1a, f1b, f1c⟩ := int_yes g1
    have HQ : Hid ((3 : Int) = R) := by unfold Hid; rw [← eR]; unfold Tq.made; simp [g0, g1]
    clear eR g0 g1
    go_enter Tryd.func16, Tryd.ntmps16
    go_wp2
    go_ret
    exact ⟨rfl, congrArg (fun z => Ending.returned (.int .i64 z)) HQ.out⟩
  obtain ⟨q15a, q15b, q15c⟩ := int_no h15
  by_cases h16 : op = 16
  · subst h16
    rcases Decidable.em (¬ a = b) with g0 | g0
    · have HQ : Hid ((0 : Int) = R) := by unfold Hid; rw [← eR]; unfold Tq.made; simp [g0]
      obtain ⟨f0a, f0b, f0c⟩ := int_no g0
      clear eR
      clear g0
      go_enter Tryd.func16, Tryd.ntmps16
      go_wp2
      go_ret
      exact ⟨rfl, congrArg (fun z => Ending.returned (.int .i64 z)) HQ.out⟩
    have g0 := Decidable.not_not.1 g0
    subst g0
    have HQ : Hid ((a : Int) = R) := by unfold Hid; rw [← eR]; unfold Tq.made; simp
    clear eR 
    go_enter Tryd.func16, Tryd.ntmps16
    go_wp2
    go_ret
    exact ⟨rfl, congrArg (fun z => Ending.returned (.int .i64 z)) HQ.out⟩
  obtain ⟨q16a, q16b, q16c⟩ := int_no h16
  have HQ : Hid ((0 : Int) = R) := by unfold Hid; rw [← eR]; unfold Tq.made; simp [h5, h6, h8, h9, h7, h10, h11, h12, h17, h13, h14, h15, h16]
  clear eR h5 h6 h8 h9 h7 h10 h11 h12 h17 h13 h14 h15 h16
  go_enter Tryd.func16, Tryd.ntmps16
  go_wp2
  go_ret
  exact ⟨rfl, congrArg (fun z => Ending.returned (.int .i64 z)) HQ.out⟩
end Go.Proofs.YtgoecghakiihpaaDoor
