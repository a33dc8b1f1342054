/-
  The document's amiss.
-/
import Derived.Test.YtkjofadabaecfaaTVal
import Derived.Deep.RegionLaw
namespace Go.Proofs.Ytkjofadabaecfaa
open Go.RowKit
theorem amiss_form (lv : Nat) (t : Bq.T) : Bq.amiss lv t = if t.tag % 32 = 31 ∨ (t.tag / 32 % 2 = 0 ∧ t.list ≠ []) ∨ (t.tag / 32 % 2 = 1 ∧ t.bytes ≠ []) then 60 else if t.tag / 32 % 2 = 0 then 0 else match lv with
    | 0 => 61
    | lv + 1 => Bq.first (Bq.amiss lv) t.list := by
  rw [Bq.amiss.eq_def]
  cases lv <;> rfl
theorem first_step {f : Bq.T → Nat} {l : List Bq.T} {k : Nat} {x : Bq.T} (hx : l[k]? = some x) : (f x ≠ 0 → Bq.first f (l.drop k) = f x) ∧ (f x = 0 → Bq.first f (l.drop k) = Bq.first f (l.drop (k + 1))) := by
  obtain ⟨h1, h2⟩ := List.getElem?_eq_some_iff.1 hx
  rw [List.drop_eq_getElem_cons h1, h2, Bq.first]
  exact ⟨fun h => if_pos h, fun h => if_neg (fun e => e h)⟩

end Go.Proofs.Ytkjofadabaecfaa
