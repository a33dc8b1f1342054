/-
  Claims, plain: how the program tells whether claims hold.
-/
import Derived.Test.YtoocejcoaojaiaaDoorVM
namespace Go.Proofs.YtoocejcoaojaiaaDoor.Vq

theorem textOf_none {v : Jq.J} {n : List Nat} (h : getP v n = none) : textOf v n = none := by unfold textOf; rw [h]
theorem intOf_none {v : Jq.J} {n : List Nat} (h : getP v n = none) : intOf v n = none := by unfold intOf; rw [h]
/-- Who it is, as the program asks. -/
def Who (v : Jq.J) : Prop := (textOf v issN).isSome = true ∧ (textOf v subN).getD [] ≠ [] ∧ (textOf v audN).isSome = true
def When (v : Jq.J) : Prop := (intOf v expN).isSome = true ∧ (intOf v iatN).isSome = true ∧ ((intOf v nbfN).isSome = true ∨ getP v nbfN = none)
def Nonced (v : Jq.J) : Prop := (textOf v nonceN).isSome = true ∨ getP v nonceN = none
theorem formed_iff (v : Jq.J) : Formed v ↔ Who v ∧ When v ∧ Nonced v := by
  have h1 := @textOf_none v nonceN
  have h2 := @intOf_none v nbfN
  unfold Formed Who When Nonced
  constructor
  · rintro ⟨a1, a2, a3, a4, a5, a6, a7, a8⟩
    refine ⟨⟨a1, ?_, a4⟩, ⟨a5, a6, ?_⟩, ?_⟩
    · intro h
      cases hs : textOf v subN with
      | none => rw [hs] at a2; cases a2
      | some s => rw [hs] at h; exact a3 (by rw [hs]; exact congrArg some h)
    · cases hg : getP v nbfN with
      | none => exact .inr rfl
      | some x => rw [hg] at a7; exact .inl a7.symm
    · cases hg : getP v nonceN with
      | none => exact .inr rfl
      | some x => rw [hg] at a8; exact .inl a8.symm
  · rintro ⟨⟨a1, a2, a3⟩, ⟨a4, a5, a6⟩, a7⟩
    refine ⟨a1, ?_, ?_, a3, a4, a5, ?_, ?_⟩
    · cases hs : textOf v subN with
      | none => rw [hs] at a2; exact absurd rfl a2
      | some s => rfl
    · intro h; rw [h] at a2; exact a2 rfl
    · cases hg : getP v nbfN with
      | none => rw [h2 hg]; rfl
      | some x =>
        rcases a6 with a6 | a6
        · rw [a6]; rfl
        · rw [hg] at a6; cases a6
    · cases hg : getP v nonceN with
      | none => rw [h1 hg]; rfl
      | some x =>
        rcases a7 with a7 | a7
        · rw [a7]; rfl
        · rw [hg] at a7; cases a7
theorem early_iff (v : Jq.J) (w : Want) : Early v w ↔ add w.now w.slack < add (max ((intOf v iatN).getD 0) ((intOf v nbfN).getD 0)) 0 := by
  unfold Early
  cases intOf v nbfN with
  | none => simp only [Option.isSome_none, Option.getD_none]; unfold add; constructor
            · rintro (h | ⟨h, _⟩)
              · omega
              · cases h
            · intro h; left; omega
  | some n => simp only [Option.isSome_some, Option.getD_some]; unfold add; constructor
              · rintro (h | ⟨_, h⟩) <;> omega
              · intro h
                by_cases h1 : min top (min top (max 0 w.now) + min top (max 0 w.slack)) < min top (min top (max 0 ((intOf v iatN).getD 0)) + min top (max 0 0))
                · exact .inl h1
                · exact .inr ⟨trivial, by omega⟩
end Go.Proofs.YtoocejcoaojaiaaDoor.Vq
