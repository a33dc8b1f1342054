/-
  The document's word.
-/
import Derived.Test.YtndkangfnojpoaaGreatDoorJROut
namespace Go.Proofs.YtndkangfnojpoaaGreatDoor
open Go.RowKit


set_option maxHeartbeats 400000 in
set_option maxRecDepth 100000 in
theorem refWord_any (s wd : ByteArray) (i : Nat) (hi : i ≤ s.size) (hs : s.size ≤ 4096) (hw0 : wd.size ≤ 5) (k : Int) (hk : 0 ≤ k ∧ k ≤ 9) (b : Bool) (w : World) :
    Calls Tryz.prog 39 #[.string s, .int .i64 i, .string wd, jv k b 0 ByteArray.empty nilS nilS] w (GotEnd (numsOf s) i (Jq.word (numsOf wd) (.mk k b 0 [] [] []) ((numsOf s).drop i)) w) := by
  obtain ⟨RES, eRES⟩ : ∃ RES, Jq.word (numsOf wd) (.mk k b 0 [] [] []) ((numsOf s).drop i) = RES := ⟨_, rfl⟩
  rw [eRES]
  obtain ⟨N, eN⟩ : ∃ N, wd.size = N := ⟨_, rfl⟩
  have hlen : (numsOf wd).length = N := by rw [numsOf_length, eN]
  unfold Jq.word at eRES
  rw [hlen] at eRES
  have hJ : ∀ (w' : World) (ok : Nat → Prop), IsJ w' ok (jv k b 0 ByteArray.empty nilS nilS) (.mk k b 0 [] [] []) := fun w' ok => isJ_plain w' ok (t := []) (by omega) (by omega) ⟨by simp, fun x hx => nomatch hx⟩
  have hb2 : ∀ o o', Below w.heap.size w ((w.alloc o).alloc o') := fun o o' => ((Below.refl _ _).alloc (Nat.le_refl _) o).alloc (by simp) o'
  have HNO : Hid (RES = .error 51 → ∀ o o', GotEnd (numsOf s) i RES w (.returned (errV 51)) ((w.alloc o).alloc o')) := fun h o o' => GotEnd.err (n := 51) h (by decide) (hb2 o o')
  by_cases h1 : s.size - i < N
  · have d1 : decide ((s.size : Int) - (i : Int) < (N : Int)) = true := decide_eq_true (by omega)
    have HE := Lib.hid (HNO.out (by
      rw [← eRES, if_neg (fun e => by
        have := congrArg List.length e
        rw [List.length_take, List.length_drop, numsOf_length, hlen] at this
        omega)]))
    clear eRES hlen hJ
    go_enter Tryz.func39, Tryz.ntmps39
    go_wp2
    refine bodyPost_ret (v := errV 51) ?_ rfl ?_
    · (simp [results, Tryz.results39, go_sem] <;> rfl)
    · exact HE.out _ _
  · have d1 : decide ((s.size : Int) - (i : Int) < (N : Int)) = false := decide_eq_false (by omega)
    have d2 : (0 : Int) ≤ (i : Int) := by omega
    have d3 : (i : Int) ≤ (i : Int) + (N : Int) := by omega
    have d4 : (i : Int) + (N : Int) ≤ (s.size : Int) := by omega
    have hx : numsOf (s.extract i (i + N)) = ((numsOf s).drop i).take N := by rw [nums_extract, drop_take_at]
    have hbe : ((s.extract i (i + N)).toList == wd.toList) = decide (((numsOf s).drop i).take N = numsOf wd) := by
      have := str_beq (p := ((numsOf s).drop i).take N) (q := numsOf wd) (take_lt (drop_lt (numsOf_lt s) _) _) (numsOf_lt wd)
      rw [strOf_numsOf, ← eq_strOf hx] at this
      exact this
    by_cases h2 : ((numsOf s).drop i).take N = numsOf wd
    · rw [decide_eq_true h2] at hbe
      have HE : Hid (∀ o o', GotEnd (numsOf s) i RES w (.returned (gotV k b 0 ByteArray.empty nilS nilS ((i : Int) + (N : Int)) 0)) ((w.alloc o).alloc o')) := fun o o' => by
        have h := GotEnd.ok (S := numsOf s) (i := i) (w := w) (x := .mk k b 0 [] [] []) (res := RES) (r := (numsOf s).drop (i + N)) (A1 := none) (A2 := none) (c1 := 0) (c2 := 0) (j := i + N) (by rw [← eRES, if_pos h2, List.drop_drop]) (hJ ((w.alloc o).alloc o') _) rfl (by rw [numsOf_length]; omega) (Nat.le_add_right _ _) (hb2 o o')
        exact h
      clear eRES hlen hJ h2 hx HNO
      go_enter Tryz.func39, Tryz.ntmps39
      go_wp2
      refine bodyPost_ret (v := gotV k b 0 ByteArray.empty nilS nilS ((i : Int) + (N : Int)) 0) ?_ rfl ?_
      · (simp [results, Tryz.results39, go_sem] <;> rfl)
      · exact HE.out _ _
    · rw [decide_eq_false h2] at hbe
      have HE := Lib.hid (HNO.out (by rw [← eRES, if_neg h2]))
      clear eRES hlen hJ h2 hx HNO
      go_enter Tryz.func39, Tryz.ntmps39
      go_wp2
      refine bodyPost_ret (v := errV 51) ?_ rfl ?_
      · (simp [results, Tryz.results39, go_sem] <;> rfl)
      · exact HE.out _ _
end Go.Proofs.YtndkangfnojpoaaGreatDoor
