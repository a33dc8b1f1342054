/-
  The contract of the document's Same, at two tokens that read alike; what Open answers, in one form.
-/
import Derived.Test.YthklgpflaghojaaGreatDoorWPD
import Derived.Test.YthklgpflaghojaaGreatDoorQS
namespace Go.Proofs.YthklgpflaghojaaGreatDoor
open Go.RowKit
/-- What Open answers, in one form: the parts of the token, and the error. -/
def shown : Except Nat Wq.Tok → ByteArray × Jq.J × ByteArray × List Nat × Int
  | .ok t => (strOf t.kid, t.claims, strOf t.signed, t.mac, 0)
  | .error m => (ByteArray.empty, .mk 0 false 0 [] [] [], ByteArray.empty, [], m)
/-- The same, of an answer in memory. -/
def Shows (kb : ByteArray) (x : Jq.J) (sb : ByteArray) (q : List Nat) (E : Int) (w : World) (e : Ending) (w' : World) : Prop := Below w.heap.size w w' ∧
  ∃ (A1 A2 A3 : Option Addr) (c1 c2 c3 : Nat), e = .returned (.tuple #[tokv kb x.kind x.bool x.int (strOf x.text) (.slice A1 x.names.length c1) (.slice A2 x.list.length c2) sb (.slice A3 q.length c3), .int .i64 E]) ∧
    IsJ w' (w.heap.size ≤ ·) (jv x.kind x.bool x.int (strOf x.text) (.slice A1 x.names.length c1) (.slice A2 x.list.length c2)) x ∧ ArgIs w' A3 c3 q
theorem OpenEnd.shows {res : Except Nat Wq.Tok} {w w' : World} {e : Ending} (h : OpenEnd res w e w') : Shows (shown res).1 (shown res).2.1 (shown res).2.2.1 (shown res).2.2.2.1 (shown res).2.2.2.2 w e w' := by
  obtain ⟨hb, h⟩ := h
  refine ⟨hb, ?_⟩
  cases res with
  | ok t =>
    obtain ⟨A1, A2, A3, c1, c2, c3, rfl, hJ, hA, _⟩ := h
    exact ⟨A1, A2, A3, c1, c2, c3, rfl, hJ, hA⟩
  | error m =>
    obtain ⟨rfl, _⟩ := h
    exact ⟨none, none, none, 0, 0, 0, rfl, isJ_plain (k := 0) (b := false) (n := 0) (t := []) w' _ ⟨by omega, by omega⟩ ⟨by omega, by omega⟩ ⟨Nat.zero_le _, (fun _ h => nomatch h)⟩, Nat.zero_le _, by omega, (fun _ h => nomatch h), fun h => absurd h (Nat.lt_irrefl _)⟩
end Go.Proofs.YthklgpflaghojaaGreatDoor
