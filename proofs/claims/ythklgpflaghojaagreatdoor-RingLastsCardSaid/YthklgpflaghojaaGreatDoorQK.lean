/-
  QK: JAlive JLawP, side by side.
-/
import Derived.Test.YthklgpflaghojaaGreatDoorQJ
import Derived.Test.YthklgpflaghojaaGreatDoorQI
import Derived.Test.YthklgpflaghojaaGreatDoorQH
import Derived.Test.YthklgpflaghojaaGreatDoorQS
import Derived.Test.YthklgpflaghojaaGreatDoorQA

/-
  The law package's alive: it answers true.
-/
namespace Go.Proofs.YthklgpflaghojaaGreatDoor
open Go.RowKit
end Go.Proofs.YthklgpflaghojaaGreatDoor

/-
  Parse at any text; how a law ends.
-/
namespace Go.Proofs.YthklgpflaghojaaGreatDoor
open Go.RowKit

/-- How a law ends. -/
def IsTrue (w : World) (e : Ending) (w' : World) : Prop := e = .returned (.bool true) ∧ Below w.heap.size w w'

/-- Parse, at any text. -/
def ParseEndJ (S : List Nat) (w : World) (e : Ending) (w' : World) : Prop := Below w.heap.size w w' ∧ match Jq.parse S with
  | .ok v => ∃ u, e = .returned (.tuple #[u, .int .i64 0]) ∧ IsJ w' (w.heap.size ≤ ·) u v
  | .error m => e = .returned (.tuple #[jv 0 false 0 ByteArray.empty nilS nilS, .int .i64 (m : Int)]) ∧ 0 < m
theorem parseJ_any (s : ByteArray) (w : World) (hH : Held w) : Calls Tryz.prog 54 #[.string s] w (ParseEndJ (numsOf s) w) := by
  by_cases hs : s.size ≤ 4096
  · refine (parse_any s hs w hH).mono ?_
    rintro e w' ⟨hb, h⟩
    refine ⟨hb, ?_⟩
    have hpw := parse_whole (S := numsOf s) (by rw [numsOf_length]; exact hs)
    cases hw : wholeP (numsOf s) with
    | error m =>
      rw [hw] at h hpw
      rw [hpw]
      exact ⟨h, Jq.parse_err hpw⟩
    | ok p =>
      obtain ⟨v, r⟩ := p
      rw [hw] at h hpw
      rw [hpw]
      exact h
  · refine (parse_long s (by omega) w).mono ?_
    rintro e w' ⟨he, hb⟩
    refine ⟨hb, ?_⟩
    have hp : Jq.parse (numsOf s) = .error 50 := by unfold Jq.parse; rw [if_pos (by rw [numsOf_length]; omega)]
    rw [hp]
    exact ⟨he, by decide⟩
theorem ParseEndJ.cases {S : List Nat} {w w' : World} {e : Ending} (h : ParseEndJ S w e w') :
    (∃ v u, Jq.parse S = .ok v ∧ e = .returned (.tuple #[u, .int .i64 0]) ∧ IsJ w' (w.heap.size ≤ ·) u v ∧ Below w.heap.size w w') ∨ (∃ m, Jq.parse S = .error m ∧ e = .returned (.tuple #[jv 0 false 0 ByteArray.empty nilS nilS, .int .i64 (m : Int)]) ∧ 0 < m ∧ Below w.heap.size w w') := by
  obtain ⟨hb, h⟩ := h
  cases hp : Jq.parse S with
  | ok v =>
    rw [hp] at h
    obtain ⟨u, h1, h2⟩ := h
    exact .inl ⟨v, u, rfl, h1, h2, hb⟩
  | error m =>
    rw [hp] at h
    exact .inr ⟨m, rfl, h.1, h.2, hb⟩
end Go.Proofs.YthklgpflaghojaaGreatDoor
