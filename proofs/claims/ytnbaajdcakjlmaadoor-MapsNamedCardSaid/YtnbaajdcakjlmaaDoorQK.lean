/-
  QK: JAlive JLawP, side by side.
-/
import Derived.Test.YtnbaajdcakjlmaaDoorQJ
import Derived.Test.YtnbaajdcakjlmaaDoorQI
import Derived.Test.YtnbaajdcakjlmaaDoorQS
import Derived.Test.YtnbaajdcakjlmaaDoorQA

/-
  The law package's alive: it answers true.
-/
namespace Go.Proofs.YtnbaajdcakjlmaaDoor
open Go.RowKit
end Go.Proofs.YtnbaajdcakjlmaaDoor

/-
  Parse at any text; how a law ends.
-/
namespace Go.Proofs.YtnbaajdcakjlmaaDoor
open Go.RowKit

/-- How a law ends. -/
def IsTrue (w : World) (e : Ending) (w' : World) : Prop := e = .returned (.bool true) ∧ Below w.heap.size w w'

/-- Parse, at any text. -/
def ParseEndJ (S : List Nat) (w : World) (e : Ending) (w' : World) : Prop := Below w.heap.size w w' ∧ match Jq.parse S with
  | .ok v => ∃ u, e = .returned (.tuple #[u, .int .i64 0]) ∧ IsJ w' (w.heap.size ≤ ·) u v
  | .error m => e = .returned (.tuple #[jv 0 false 0 ByteArray.empty nilS nilS, .int .i64 (m : Int)]) ∧ 0 < m
theorem ParseEndJ.cases {S : List Nat} {w w' : World} {e : Ending} (h : ParseEndJ S w e w') :
    (∃ v u, Jq.parse S = .ok v ∧ e = .returned (.tuple #[u, .int .i64 0]) ∧ IsJ w' (w.heap.size ≤ ·) u v ∧ Below w.heap.size w w') ∨ (∃ m, Jq.parse S = .error m ∧ e = .returned (.tuple #[jv 0 false 0 ByteArray.empty nilS nilS, .int .i64 (m : Int)]) ∧ 0 < m ∧ Below w.heap.size w w') := by
  obtain ⟨hb, h⟩ := h
  cases hp : Jq.parse S with
  | ok v =>
    rw [hp] at h
    obtain ⟨u, h1, h2⟩ := h
    exact .inl ⟨v, u, rfl, h1, h2, hb⟩
  | error m =>
    rw [hp] at h
    exact .inr ⟨m, rfl, h.1, h.2, hb⟩
end Go.Proofs.YtnbaajdcakjlmaaDoor
