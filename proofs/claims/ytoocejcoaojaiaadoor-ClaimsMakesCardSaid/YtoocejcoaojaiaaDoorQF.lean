/-
  QF: JItemO, side by side.
-/
import Derived.Test.YtoocejcoaojaiaaDoorQD
import Derived.Deep.DeepCutAuto

/-
  The closure of the reader's object: a name and its value more.
-/
namespace Go.Proofs.YtoocejcoaojaiaaDoor
open Go.RowKit

theorem Jq.itemO_name (elem : List Nat → Jq.R Jq.J) (s : List (List Nat) × List Jq.J) (l : List Nat) : Jq.itemO elem s l =
    match nameP s.1 l with
    | .error e => .error e
    | .ok (t, r) => match mustP 58 r with
      | .error e => .error e
      | .ok (_, r2) => (elem r2).map fun q => ((s.1 ++ [t], s.2 ++ [q.1]), q.2) := by
  rw [Jq.itemO_if, nameP]
  split
  · cases Jq.text ((Jq.skip l).drop 1) with
    | error e => rfl
    | ok p =>
      obtain ⟨t, r⟩ := p
      simp only
      by_cases hn : t ∈ s.1
      · rw [if_pos hn, if_pos hn]
      · rw [if_neg hn, if_neg hn]
        simp only [mustP]
        split <;> rfl
  · rfl

theorem itemO_cut {elem : List Nat → Jq.R Jq.J} {ns : List (List Nat)} {l : List Jq.J} {L : List Nat} {RES : Jq.R (List (List Nat) × List Jq.J)} (h : Jq.itemO elem (ns, l) L = RES) :
    (∀ m, nameP ns L = .error m → RES = .error m) ∧
    (∀ t r m, nameP ns L = .ok (t, r) → mustP 58 r = .error m → RES = .error m) ∧
    (∀ t r r2 m, nameP ns L = .ok (t, r) → mustP 58 r = .ok ((), r2) → elem r2 = .error m → RES = .error m) ∧
    (∀ t r r2 x r3, nameP ns L = .ok (t, r) → mustP 58 r = .ok ((), r2) → elem r2 = .ok (x, r3) → RES = .ok ((ns ++ [t], l ++ [x]), r3)) := by
  rw [Jq.itemO_name] at h
  subst h
  refine ⟨fun m h1 => ?_, fun t r m h1 h2 => ?_, fun t r r2 m h1 h2 h3 => ?_, fun t r r2 x r3 h1 h2 h3 => ?_⟩
  · simp only [h1]
  · simp only [h1, h2]
  · simp only [h1, h2, h3]; rfl
  · simp only [h1, h2, h3]; rfl
theorem text_new (w : World) (x : Value) : ∀ (j : Nat) u, [x][j]? = some u → (w.alloc (.cells #[x] 9)).cell? ((⟨w.heap.size, 0, none⟩ : Addr).add j) = some u := fun j u hj => new_cells w _ _ j u hj

end Go.Proofs.YtoocejcoaojaiaaDoor
