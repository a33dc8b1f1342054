/-
  The document's Encode; small.
-/
import Derived.Test.YtkjofadabaecfaaTRWrite
namespace Go.Proofs.Ytkjofadabaecfaa
open Go.RowKit

/-- How Encode ends. -/
def EncEnd (res : Except Nat (List Nat)) (w : World) (e : Ending) (w' : World) : Prop := Below w.heap.size w w' ∧ match res with
  | .ok q => ∃ A c, e = .returned (.tuple #[.slice A q.length c, .int .i64 0]) ∧ ArgIs w' A c q
  | .error n => 0 < n ∧ e = .returned (.tuple #[nilS, .int .i64 (n : Int)])
theorem EncEnd.cases {res : Except Nat (List Nat)} {w w' : World} {e : Ending} (h : EncEnd res w e w') :
    (∃ q A c, res = .ok q ∧ e = .returned (.tuple #[.slice A q.length c, .int .i64 0]) ∧ ArgIs w' A c q ∧ Below w.heap.size w w') ∨ (∃ n, res = .error n ∧ 0 < n ∧ e = .returned (.tuple #[nilS, .int .i64 (n : Int)]) ∧ Below w.heap.size w w') := by
  obtain ⟨hb, h⟩ := h
  cases hr : res with
  | ok q =>
    rw [hr] at h
    obtain ⟨A, c, h1, h2⟩ := h
    exact .inl ⟨q, A, c, rfl, h1, h2, hb⟩
  | error n =>
    rw [hr] at h
    exact .inr ⟨n, rfl, h.1, h.2, hb⟩

end Go.Proofs.Ytkjofadabaecfaa
