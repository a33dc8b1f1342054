/-
  Types, plain: whether rules make sense.
-/
import Derived.Test.YtgoecghakiihpaaDoorKM
import Derived.Test.YtgoecghakiihpaaDoorKRes
namespace Go.Proofs.YtgoecghakiihpaaDoor.Tq

def ruleT (fs : List Fd) (r : Zq.Rl) : Int :=
  if r.name = [] then cond fs r.cond
  else if Vq.Reserved r.name then 120
  else if (of fs r.expr).2 ≠ 0 ∨ r.cond = [] then (of fs r.expr).2 else cond fs r.cond
def check (fs : List Fd) : List Zq.Rl → Int
  | [] => 0
  | r :: l => if ruleT fs r = 0 then check fs l else ruleT fs r
theorem rule_more {fs : List Fd} (more : List Fd) {r : Zq.Rl} (h : ruleT fs r = 0) : ruleT (fs ++ more) r = 0 := by
  unfold ruleT at h ⊢
  by_cases h1 : r.name = []
  · rw [if_pos h1] at h ⊢
    exact cond_more more h
  rw [if_neg h1] at h ⊢
  by_cases h2 : Vq.Reserved r.name
  · rw [if_pos h2] at h
    exact absurd h (by decide)
  rw [if_neg h2] at h ⊢
  by_cases h3 : (of fs r.expr).2 ≠ 0 ∨ r.cond = []
  · rw [if_pos h3] at h
    rw [of_more more h, if_pos h3]
    exact h
  · rw [if_neg h3] at h
    have h4 : (of fs r.expr).2 = 0 := Decidable.not_not.1 fun e => h3 (.inl e)
    rw [of_more more h4, if_neg h3]
    exact cond_more more h
theorem check_more {fs : List Fd} (more : List Fd) : ∀ (l : List Zq.Rl), check fs l = 0 → check (fs ++ more) l = 0
  | [], _ => rfl
  | r :: l, h => by
    simp only [check] at h ⊢
    by_cases e : ruleT fs r = 0
    · rw [if_pos e] at h
      rw [if_pos (rule_more more e)]
      exact check_more more l h
    · rw [if_neg e] at h
      exact absurd h e
theorem not_reserved_nil : ¬ Vq.Reserved [] := by decide
end Go.Proofs.YtgoecghakiihpaaDoor.Tq
