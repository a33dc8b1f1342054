/-
  Add, the program's and the document's.
-/
import Derived.Test.YtoocejcoaojaiaaDoorVM2
import Derived.Lib.QuietBelow
import Derived.BigQuiet
namespace Go.Proofs.YtoocejcoaojaiaaDoor
open Go.RowKit Go.Sort

def lim (n : Int) : Int := min Vq.top (max 0 n)
theorem lim_ge (n : Int) : 0 ≤ lim n ∧ lim n ≤ 1099511627776 := by unfold lim Vq.top; omega
theorem lim_sum (a b : Int) : lim (lim a + lim b) = Vq.add a b := by unfold lim Vq.add Vq.top; omega
theorem limited_any (n : Int) (w : World) : Calls Tryd.prog 25 #[.int .i64 n] w fun e w' => w = w' ∧ e = .returned (.int .i64 (lim n)) := by
  have HL : Hid (lim n = min 1099511627776 (max 0 n)) := rfl
  go_enter Tryd.func25, Tryd.ntmps25
  go_wp2
  go_ret
  refine ⟨rfl, congrArg (fun r => Ending.returned (.int .i64 r)) ?_⟩
  rw [HL.out]
  first | omega | (trace_state; fail)
set_option maxHeartbeats 1000000 in
theorem cadd_any (a b : Int) (w : World) : Calls Tryd.prog 11 #[.int .i64 a, .int .i64 b] w fun e w' => w = w' ∧ e = .returned (.int .i64 (Vq.add a b)) := by
  have h1 := limited_any a w
  have h2 := limited_any b w
  have h3 := limited_any (lim a + lim b) w
  rw [lim_sum] at h3
  have ha := lim_ge a
  have hb := lim_ge b
  obtain ⟨A, eA⟩ : ∃ A, lim a = A := ⟨_, rfl⟩
  obtain ⟨B, eB⟩ : ∃ B, lim b = B := ⟨_, rfl⟩
  rw [eA] at h1 h3 ha
  rw [eB] at h2 h3 hb
  clear eA eB
  obtain ⟨ha1, ha2⟩ := ha
  obtain ⟨hb1, hb2⟩ := hb
  have hs1 : 0 ≤ A + B := by omega
  have hs2 : A + B ≤ 2199023255552 := by omega
  go_enter Tryd.func11, Tryd.ntmps11
  go_wp2_with fail
  refine h1.mono ?_
  rintro e w1 ⟨rfl, rfl⟩
  go_wp2_with fail
  refine h2.mono ?_
  rintro e w1 ⟨rfl, rfl⟩
  go_wp2_with fail
  refine h3.mono ?_
  rintro e w1 ⟨rfl, rfl⟩
  go_wp2
  go_ret
  exact ⟨rfl, rfl⟩
theorem add_cases (a b A B : Int) (hA : A = max 0 a) (hB : B = max 0 b) : (1099511627776 ≤ A ∧ Vq.add a b = 1099511627776) ∨ (A < 1099511627776 ∧ 1099511627776 ≤ B ∧ Vq.add a b = 1099511627776) ∨ (A < 1099511627776 ∧ B < 1099511627776 ∧ 1099511627776 ≤ A + B ∧ Vq.add a b = 1099511627776) ∨ (A < 1099511627776 ∧ B < 1099511627776 ∧ A + B < 1099511627776 ∧ Vq.add a b = A + B) := by
  unfold Vq.add Vq.top; omega
set_option maxHeartbeats 1000000 in
theorem refAdd_any (a b : Int) (w : World) : Calls Tryd.prog 12 #[.int .i64 a, .int .i64 b] w fun e w' => w = w' ∧ e = .returned (.int .i64 (Vq.add a b)) := by
  have hc := fun A B => add_cases a b A B
  obtain ⟨S, eS⟩ : ∃ S, Vq.add a b = S := ⟨_, rfl⟩
  rw [eS]
  simp only [eS] at hc
  clear eS
  by_cases h1 : a < 0
  · have d1 : decide (a < 0) = true := decide_eq_true h1
    by_cases h2 : b < 0
    · have d2 : decide (b < 0) = true := decide_eq_true h2
      have hs : S = 0 := by rcases hc 0 0 (by omega) (by omega) with h | h | h | h <;> omega
      subst hs
      clear hc h1 h2
      go_enter Tryd.func12, Tryd.ntmps12
      go_wp2
      go_ret
      exact ⟨rfl, rfl⟩
    · have d2 : decide (b < 0) = false := decide_eq_false h2
      rcases hc 0 b (by omega) (by omega) with ⟨h, rfl⟩ | ⟨h, h3, rfl⟩ | ⟨h, h3, h4, rfl⟩ | ⟨h, h3, h4, h5⟩
      · omega
      · have d3 : decide ((1099511627776 : Int) ≤ b) = true := decide_eq_true h3
        clear hc h1 h2 h
        go_enter Tryd.func12, Tryd.ntmps12
        go_wp2
        go_ret
        exact ⟨rfl, rfl⟩
      · omega
      · have d3 : decide ((1099511627776 : Int) ≤ b) = false := decide_eq_false (by omega)
        have hS := Lib.hid h5
        have hb0 : 0 ≤ b := by omega
        clear hc h1 h2 h h4 h5
        go_enter Tryd.func12, Tryd.ntmps12
        go_wp2
        go_ret
        exact ⟨rfl, congrArg (fun r => Ending.returned (.int .i64 r)) (by rw [hS.out]; omega)⟩
  · have d1 : decide (a < 0) = false := decide_eq_false h1
    by_cases h2 : b < 0
    · have d2 : decide (b < 0) = true := decide_eq_true h2
      rcases hc a 0 (by omega) (by omega) with ⟨h, rfl⟩ | ⟨h, h3, rfl⟩ | ⟨h, h3, h4, rfl⟩ | ⟨h, h3, h4, h5⟩
      · have d3 : decide ((1099511627776 : Int) ≤ a) = true := decide_eq_true h
        clear hc h1 h2
        go_enter Tryd.func12, Tryd.ntmps12
        go_wp2
        go_ret
        exact ⟨rfl, rfl⟩
      · omega
      · omega
      · have d3 : decide ((1099511627776 : Int) ≤ a) = false := decide_eq_false (by omega)
        have hS := Lib.hid h5
        have ha0 : 0 ≤ a := by omega
        clear hc h1 h2 h3 h4 h5
        go_enter Tryd.func12, Tryd.ntmps12
        go_wp2
        go_ret
        exact ⟨rfl, congrArg (fun r => Ending.returned (.int .i64 r)) (by rw [hS.out]; omega)⟩
    · have d2 : decide (b < 0) = false := decide_eq_false h2
      rcases hc a b (by omega) (by omega) with ⟨h, rfl⟩ | ⟨h, h3, rfl⟩ | ⟨h, h3, h4, rfl⟩ | ⟨h, h3, h4, h5⟩
      · have d3 : decide ((1099511627776 : Int) ≤ a) = true := decide_eq_true h
        clear hc h1 h2
        go_enter Tryd.func12, Tryd.ntmps12
        go_wp2
        go_ret
        exact ⟨rfl, rfl⟩
      · have d3 : decide ((1099511627776 : Int) ≤ a) = false := decide_eq_false (by omega)
        have d4 : decide ((1099511627776 : Int) ≤ b) = true := decide_eq_true h3
        clear hc h1 h2
        go_enter Tryd.func12, Tryd.ntmps12
        go_wp2
        go_ret
        exact ⟨rfl, rfl⟩
      · have d3 : decide ((1099511627776 : Int) ≤ a) = false := decide_eq_false (by omega)
        have d4 : decide ((1099511627776 : Int) ≤ b) = false := decide_eq_false (by omega)
        have d5 : decide ((1099511627776 : Int) ≤ a + b) = true := decide_eq_true h4
        have hs1 : 0 ≤ a + b := by omega
        have hs2 : a + b ≤ 2199023255552 := by omega
        clear hc h1 h2
        go_enter Tryd.func12, Tryd.ntmps12
        go_wp2
        go_ret
        exact ⟨rfl, rfl⟩
      · have d3 : decide ((1099511627776 : Int) ≤ a) = false := decide_eq_false (by omega)
        have d4 : decide ((1099511627776 : Int) ≤ b) = false := decide_eq_false (by omega)
        have d5 : decide ((1099511627776 : Int) ≤ a + b) = false := decide_eq_false (by omega)
        have hs1 : 0 ≤ a + b := by omega
        have hs2 : a + b ≤ 2199023255552 := by omega
        have hS := Lib.hid h5
        clear hc h1 h2 h5
        go_enter Tryd.func12, Tryd.ntmps12
        go_wp2
        go_ret
        exact ⟨rfl, congrArg (fun r => Ending.returned (.int .i64 r)) hS.out.symm⟩
end Go.Proofs.YtoocejcoaojaiaaDoor
