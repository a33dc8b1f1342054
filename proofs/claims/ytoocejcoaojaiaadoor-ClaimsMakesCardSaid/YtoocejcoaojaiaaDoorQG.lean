/-
  QG: JItems JListR JObjectR, side by side.
-/
import Derived.Test.YtoocejcoaojaiaaDoorQD
import Derived.Test.YtoocejcoaojaiaaDoorQF

/-
  The reader's items, for the closure of a list and for that of an object.
-/
namespace Go.Proofs.YtoocejcoaojaiaaDoor
open Go.RowKit

/-- What follows an item. -/
def tailG {σ : Type} (fin : Nat) (item : σ → List Nat → Jq.R σ) (f : Nat) (s : σ) (r : List Nat) : Jq.R σ :=
  if (Jq.skip r).head? = some 44 then Jq.itemsG fin item f s ((Jq.skip r).drop 1)
  else if (Jq.skip r).head? = some fin then .ok (s, (Jq.skip r).drop 1)
  else .error 51
theorem itemsG_tail {σ : Type} (fin : Nat) (item : σ → List Nat → Jq.R σ) (f : Nat) (s : σ) (l : List Nat) : Jq.itemsG fin item (f + 1) s l = match item s l with
    | .error e => .error e
    | .ok (s', r) => tailG fin item f s' r := rfl
theorem tail_must {σ : Type} {fin : Nat} {item : σ → List Nat → Jq.R σ} {f : Nat} {s : σ} {r : List Nat} (h : (Jq.skip r).head? ≠ some 44) :
    tailG fin item f s r = match mustP fin (Jq.skip r) with | .error e => .error e | .ok (_, q) => .ok (s, q) := by
  rw [tailG, if_neg h, mustP, Jq.skip_skip]
  split <;> rfl
theorem head_len {l : List Nat} {c : Nat} (h : l.head? = some c) : 1 ≤ l.length := by
  cases l with
  | nil => cases h
  | cons a l => simp
end Go.Proofs.YtoocejcoaojaiaaDoor

/-
  A list read.
-/
namespace Go.Proofs.YtoocejcoaojaiaaDoor
open Go.RowKit
end Go.Proofs.YtoocejcoaojaiaaDoor

/-
  An object read; and a list or an object that is too deep.
-/
namespace Go.Proofs.YtoocejcoaojaiaaDoor
open Go.RowKit

theorem itemO_count {n : Nat} {x y : List (List Nat) × List Jq.J} {l r : List Nat} (hl : l.length ≤ 4096) (hh : Jq.itemO (Jq.value n) x l = .ok (y, r)) : y.2.length + r.length ≤ x.2.length + l.length ∧ r.length ≤ l.length := by
  rw [Jq.itemO_if] at hh
  have h0 := Jq.skip_len l
  split at hh
  · cases ht : Jq.text ((Jq.skip l).drop 1) with
    | error e => rw [ht] at hh; cases hh
    | ok p =>
      obtain ⟨t, r1⟩ := p
      rw [ht] at hh
      have h1 := (Jq.text_ok ht).2.2
      rw [List.length_drop] at h1
      simp only at hh
      split at hh
      · cases hh
      · split at hh
        · have h2 := Jq.skip_len r1
          cases hv : Jq.value n ((Jq.skip r1).drop 1) with
          | error e => rw [hv] at hh; cases hh
          | ok p =>
            rw [hv] at hh
            have h3 := (Jq.value_good n _ p.1 p.2 (by rw [List.length_drop]; omega) hv).2
            rw [List.length_drop] at h3
            obtain ⟨rfl, rfl⟩ : (x.1 ++ [t], x.2 ++ [p.1]) = y ∧ p.2 = r := by simpa [Except.map] using hh
            simp
            omega
        · cases hh
  · cases hh
end Go.Proofs.YtoocejcoaojaiaaDoor
