/-
  What rules and nodes that came in are bounded by.
-/
import Derived.Test.YtnbaajdcakjlmaaDoorM07
import Derived.Test.YtnbaajdcakjlmaaDoorMFew
namespace Go.Proofs.YtnbaajdcakjlmaaDoor
open Go.RowKit

theorem nodes_ok {ns : List Zq.Nd} (h : ∀ n ∈ ns, NodeB 140737488355328 n) : NodesOk ns := fun n hn => ⟨(h n hn).2.2.2, (h n hn).1⟩
theorem ruleC_ok {W : World} {v : Value} {rs : List Zq.Rl} (h : RulesIn W 140737488355328 v rs) : ∀ r ∈ rs, RuleB r := fun r hr => ⟨(h.2.2 r hr).1, nodes_ok (h.2.2 r hr).2.2.1, nodes_ok (h.2.2 r hr).2.2.2⟩
end Go.Proofs.YtnbaajdcakjlmaaDoor
