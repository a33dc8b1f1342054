/-
  The document's reading, plain: lists and objects under way.
-/
import Derived.Test.YtndkangfnojpoaaGreatDoorJRT
namespace Go.Proofs.YtndkangfnojpoaaGreatDoor
open Go.RowKit

/-- A list under way: what the whole says, by the elements read and what the rest says. -/
def ListAt (elem : List Nat → Jq.R Jq.J) (RES : Jq.R Jq.J) (S : List Nat) (k : Nat) (acc : List Jq.J) : Prop :=
  ∃ f, S.length - k < f ∧ RES = (Jq.items elem f (S.drop k)).map fun q => (Jq.listJ (acc ++ q.1), q.2)
def MembersAt (elem : List Nat → Jq.R Jq.J) (RES : Jq.R Jq.J) (S : List Nat) (k : Nat) (ns : List (List Nat)) (acc : List Jq.J) : Prop :=
  ∃ f, S.length - k < f ∧ RES = (Jq.members elem f ns (S.drop k)).map fun q => (Jq.objJ (ns ++ q.1.1) (acc ++ q.1.2), q.2)
section
variable {elem : List Nat → Jq.R Jq.J} {RES : Jq.R Jq.J} {S : List Nat} {k : Nat} {acc : List Jq.J} {ns : List (List Nat)}
theorem skip_head (j : Nat) {c : Nat} (hc : c ≠ 0) : (Jq.skip (S.drop j)).head? = some c ↔ S.getD (past S j) 0 = c := by
  rw [skip_drop, head_drop hc]
theorem skip_tail (j : Nat) : (Jq.skip (S.drop j)).drop 1 = S.drop (past S j + 1) := by
  rw [skip_drop, List.drop_drop]
theorem lt_of_get {i c : Nat} (h : S.getD i 0 = c) (hc : c ≠ 0) : i < S.length := (drop_of h hc).1
theorem list_begin {i : Nat} (h : RES = Jq.listOf elem (S.drop i)) : (S.getD (past S i) 0 = 93 → RES = .ok (Jq.listJ [], S.drop (past S i + 1))) ∧ (S.getD (past S i) 0 ≠ 93 → ListAt elem RES S (past S i) []) := by
  unfold Jq.listOf at h
  rw [skip_drop] at h
  refine ⟨fun hc => ?_, fun hc => ?_⟩
  · rw [(drop_of hc (by decide)).2] at h
    exact h
  · refine ⟨(S.drop (past S i)).length + 1, by rw [List.length_drop]; omega, ?_⟩
    split at h
    · rename_i r e
      exact absurd (head_of rfl e).symm hc
    · exact h
theorem ListAt.err (h : ListAt elem RES S k acc) {n : Nat} (he : elem (S.drop k) = .error n) : RES = .error n := by
  obtain ⟨f, hf, h⟩ := h
  cases f with
  | zero => omega
  | succ f => rw [h, Jq.items_if, he]; rfl
theorem ListAt.next (h : ListAt elem RES S k acc) {v : Jq.J} {r : List Nat} {j : Nat} (he : elem (S.drop k) = .ok (v, r)) (hr : r = S.drop j) (hkj : k ≤ j) (hj : j ≤ S.length) :
    (S.getD (past S j) 0 = 93 → RES = .ok (Jq.listJ (acc ++ [v]), S.drop (past S j + 1))) ∧
    (S.getD (past S j) 0 = 44 → ListAt elem RES S (past S (past S j + 1)) (acc ++ [v])) ∧
    (S.getD (past S j) 0 ≠ 93 → S.getD (past S j) 0 ≠ 44 → RES = .error 51) := by
  obtain ⟨f, hf, h⟩ := h
  cases f with
  | zero => omega
  | succ f =>
    rw [Jq.items_if, he] at h
    simp only at h
    subst hr
    refine ⟨fun hc => ?_, fun hc => ?_, fun h1 h2 => ?_⟩
    · rw [if_pos ((skip_head j (by decide)).2 hc), skip_tail] at h
      simpa [Except.map] using h
    · rw [if_neg (fun e => by rw [skip_head j (by decide), hc] at e; cases e), if_pos ((skip_head j (by decide)).2 hc), skip_tail, skip_drop] at h
      have g1 := past_ge hj
      have g2 := lt_of_get hc (by decide)
      have g3 := past_ge (S := S) (i := past S j + 1) (by omega)
      refine ⟨f, by omega, ?_⟩
      rw [h]
      cases Jq.items elem f (S.drop (past S (past S j + 1))) with
      | error e => rfl
      | ok p => simp [Except.map]
    · rw [if_neg (fun e => h1 ((skip_head j (by decide)).1 e)), if_neg (fun e => h2 ((skip_head j (by decide)).1 e))] at h
      exact h
theorem object_begin {i : Nat} (h : RES = Jq.objectOf elem (S.drop i)) : (S.getD (past S i) 0 = 125 → RES = .ok (Jq.objJ [] [], S.drop (past S i + 1))) ∧ (S.getD (past S i) 0 ≠ 125 → MembersAt elem RES S (past S i) [] []) := by
  unfold Jq.objectOf at h
  rw [skip_drop] at h
  refine ⟨fun hc => ?_, fun hc => ?_⟩
  · rw [(drop_of hc (by decide)).2] at h
    exact h
  · refine ⟨(S.drop (past S i)).length + 1, by rw [List.length_drop]; omega, ?_⟩
    split at h
    · rename_i r e
      exact absurd (head_of rfl e).symm hc
    · exact h
theorem MembersAt.noName (h : MembersAt elem RES S k ns acc) (hc : S.getD k 0 ≠ 34) : RES = .error 51 := by
  obtain ⟨f, hf, h⟩ := h
  cases f with
  | zero => omega
  | succ f => rw [h, Jq.members_if, if_neg (fun e => hc ((head_drop (by decide)).1 e))]; rfl
/-- A member's name is read. -/
def NameAt (elem : List Nat → Jq.R Jq.J) (RES : Jq.R Jq.J) (S : List Nat) (k j : Nat) (t : List Nat) (ns : List (List Nat)) (acc : List Jq.J) : Prop :=
  ∃ f, S.length - k < f + 1 ∧ RES = (if t ∈ ns then (.error 54 : Jq.R (List (List Nat) × List Jq.J)) else if S.getD (past S j) 0 = 58 then (match elem (S.drop (past S j + 1)) with
          | .error e => .error e
          | .ok (v, r3) => if (Jq.skip r3).head? = some 125 then .ok (([t], [v]), (Jq.skip r3).drop 1) else if (Jq.skip r3).head? = some 44 then (Jq.members elem f (ns ++ [t]) (Jq.skip ((Jq.skip r3).drop 1))).map (fun q => ((t :: q.1.1, v :: q.1.2), q.2)) else .error 51)
        else .error 51).map fun q => (Jq.objJ (ns ++ q.1.1) (acc ++ q.1.2), q.2)
theorem MembersAt.name (h : MembersAt elem RES S k ns acc) (hc : S.getD k 0 = 34) :
    (∀ n, Jq.text (S.drop (k + 1)) = .error n → RES = .error n) ∧ (∀ t r j, Jq.text (S.drop (k + 1)) = .ok (t, r) → r = S.drop j → NameAt elem RES S k j t ns acc) := by
  obtain ⟨f, hf, h⟩ := h
  cases f with
  | zero => omega
  | succ f =>
    rw [Jq.members_if, if_pos ((head_drop (by decide)).2 hc), List.drop_drop] at h
    refine ⟨fun n ht => ?_, fun t r j ht hr => ⟨f, hf, ?_⟩⟩
    · rw [ht] at h; exact h
    · rw [ht] at h
      subst hr
      simp only [skip_head j (show (58 : Nat) ≠ 0 by decide), skip_tail] at h
      exact h
section
variable {j : Nat} {t : List Nat}
theorem NameAt.twice (h : NameAt elem RES S k j t ns acc) (ht : t ∈ ns) : RES = .error 54 := by
  obtain ⟨f, hf, h⟩ := h
  rw [h, if_pos ht]; rfl
theorem NameAt.noColon (h : NameAt elem RES S k j t ns acc) (ht : t ∉ ns) (hc : S.getD (past S j) 0 ≠ 58) : RES = .error 51 := by
  obtain ⟨f, hf, h⟩ := h
  rw [h, if_neg ht, if_neg hc]; rfl
theorem NameAt.err (h : NameAt elem RES S k j t ns acc) (ht : t ∉ ns) (hc : S.getD (past S j) 0 = 58) {n : Nat} (he : elem (S.drop (past S j + 1)) = .error n) : RES = .error n := by
  obtain ⟨f, hf, h⟩ := h
  rw [h, if_neg ht, if_pos hc, he]; rfl
theorem NameAt.next (h : NameAt elem RES S k j t ns acc) (ht : t ∉ ns) (hc : S.getD (past S j) 0 = 58) {v : Jq.J} {r : List Nat} {i : Nat} (he : elem (S.drop (past S j + 1)) = .ok (v, r)) (hr : r = S.drop i) (hki : k ≤ i) (hi : i ≤ S.length) :
    (S.getD (past S i) 0 = 125 → RES = .ok (Jq.objJ (ns ++ [t]) (acc ++ [v]), S.drop (past S i + 1))) ∧
    (S.getD (past S i) 0 = 44 → MembersAt elem RES S (past S (past S i + 1)) (ns ++ [t]) (acc ++ [v])) ∧
    (S.getD (past S i) 0 ≠ 125 → S.getD (past S i) 0 ≠ 44 → RES = .error 51) := by
  obtain ⟨f, hf, h⟩ := h
  rw [if_neg ht, if_pos hc, he] at h
  simp only at h
  subst hr
  refine ⟨fun hc => ?_, fun hc => ?_, fun h1 h2 => ?_⟩
  · rw [if_pos ((skip_head i (by decide)).2 hc), skip_tail] at h
    simpa [Except.map] using h
  · rw [if_neg (fun e => by rw [skip_head i (by decide), hc] at e; cases e), if_pos ((skip_head i (by decide)).2 hc), skip_tail, skip_drop] at h
    have g1 := past_ge hi
    have g2 := lt_of_get hc (by decide)
    have g3 := past_ge (S := S) (i := past S i + 1) (by omega)
    refine ⟨f, by omega, ?_⟩
    rw [h]
    cases Jq.members elem f (ns ++ [t]) (S.drop (past S (past S i + 1))) with
    | error e => rfl
    | ok p => simp [Except.map]
  · rw [if_neg (fun e => h1 ((skip_head i (by decide)).1 e)), if_neg (fun e => h2 ((skip_head i (by decide)).1 e))] at h
    exact h
end
end
end Go.Proofs.YtndkangfnojpoaaGreatDoor
