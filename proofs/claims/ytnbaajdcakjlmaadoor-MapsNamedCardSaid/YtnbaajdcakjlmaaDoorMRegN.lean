/-
  Two regions that draw their order: a rule's nodes in one row; an object with a name more.
-/
import Derived.Test.YtnbaajdcakjlmaaDoorMAp
namespace Go.Proofs.YtnbaajdcakjlmaaDoor
open Go.RowKit

theorem isTrue_of {w w' : World} (h : Below w.heap.size w w') : IsTrue w (.returned (.bool true)) w' := ⟨rfl, h⟩
abbrev zzzM : List Nat := [122, 122, 122]
/-- No node of these rules names it. -/
def NoneTo (rs : List Zq.Rl) (k : Nat) : Prop := ∀ (j : Nat) r, j < k → rs[j]? = some r → Mq.Unnamed zzzM (r.expr ++ r.cond)
theorem NoneTo.succ {rs : List Zq.Rl} {k : Nat} {r : Zq.Rl} (h : NoneTo rs k) (hr : rs[k]? = some r) (h1 : Mq.Unnamed zzzM (r.expr ++ r.cond)) : NoneTo rs (k + 1) := fun j q hj hq => by
  rcases Nat.lt_or_eq_of_le (Nat.le_of_lt_succ hj) with h' | h'
  · exact h j q h' hq
  · subst h'
    rw [hr] at hq
    injection hq with hq
    rw [← hq]; exact h1
theorem NoneTo.all {rs : List Zq.Rl} {n : Nat} (hn : rs.length = n) (h : NoneTo rs n) : ∀ r ∈ rs, Mq.Unnamed zzzM r.expr ∧ Mq.Unnamed zzzM r.cond := fun r hr => by
  obtain ⟨j, hj⟩ := List.getElem?_of_mem hr
  have h1 := h j r (by have := (List.getElem?_eq_some_iff.1 hj).1; omega) hj
  exact ⟨fun n hn => h1 n (List.mem_append.2 (.inl hn)), fun n hn => h1 n (List.mem_append.2 (.inr hn))⟩
def NodTo (ns : List Zq.Nd) (k : Nat) : Prop := ∀ (j : Nat) x, j < k → ns[j]? = some x → x.text ≠ zzzM
theorem NodTo.succ {ns : List Zq.Nd} {k : Nat} {x : Zq.Nd} (h : NodTo ns k) (hx : ns[k]? = some x) (h1 : x.text ≠ zzzM) : NodTo ns (k + 1) := fun j q hj hq => by
  rcases Nat.lt_or_eq_of_le (Nat.le_of_lt_succ hj) with h' | h'
  · exact h j q h' hq
  · subst h'
    rw [hx] at hq
    injection hq with hq
    rw [← hq]; exact h1
theorem NodTo.all {ns : List Zq.Nd} {n : Nat} (hn : ns.length = n) (h : NodTo ns n) : Mq.Unnamed zzzM ns := fun x hx => by
  obtain ⟨j, hj⟩ := List.getElem?_of_mem hx
  exact h j x (by have := (List.getElem?_eq_some_iff.1 hj).1; omega) hj

/-- The world while a rule's nodes are put into one row. -/
def NodI (B : Nat) (W0 : World) (L : Array Bool) (_ : Act) (W : World) : Prop :=
  Below B W0 W ∧ (L.getD 3 true = true → L.getD 0 true = true) ∧ (L.getD 6 true = true → L.getD 3 true = true)
/-- What lies in the slots. -/
def NodF (B P : Nat) (v1 v2 : Value) (ns ms : List Zq.Nd) (N M : Nat) (L : Array Bool) : Nat → Value → World → Prop
  | 0, v, W => L.getD 3 true = true ∨ W.ownsRow B 44 5 v 0 []
  | 1, v, _ => v = .pointer (some ⟨P, 1, none⟩)
  | 2, v, _ => v = v1
  | 3, v, W => L.getD 6 true = true ∨ ∃ A c, v = .slice A N c ∧ W.ownsRow B 44 5 v N (ncells ns)
  | 4, v, _ => v = .pointer (some ⟨P, 2, none⟩)
  | 5, v, _ => v = v2
  | 6, v, W => ∃ A c, v = .slice A (N + M) c ∧ W.ownsRow B 44 5 v (N + M) (ncells (ns ++ ms))
  | 7, v, _ => v = .int .i64 ((N + M : Nat) : Int)
  | 8, v, _ => v = .int .i64 0
  | _, _, _ => True
theorem NodF.on {B P N M : Nat} {v1 v2 : Value} {ns ms : List Zq.Nd} {i : Nat} {L : Array Bool} {w w' : World} (hb : Below w.heap.size w w') :
    ∀ j u, NodF B P v1 v2 ns ms N M L j u w → NodF B P v1 v2 ns ms N M (L.setIfInBounds i true) j u w' := by
  intro j u h
  match j, h with
  | 0, h => exact h.elim (fun h => .inl (getD_mono h)) (fun h => .inr (own_below h hb))
  | 1, h => exact h
  | 2, h => exact h
  | 3, h => exact h.elim (fun h => .inl (getD_mono h)) (fun ⟨A, c, e, h⟩ => .inr ⟨A, c, e, own_below h hb⟩)
  | 4, h => exact h
  | 5, h => exact h
  | 6, ⟨A, c, e, h⟩ => exact ⟨A, c, e, own_below h hb⟩
  | 7, h => exact h
  | 8, h => exact h
  | j + 9, _ => exact trivial
theorem NodI.pure {B i : Nat} {W0 : World} {L : Array Bool} {a a' : Act} {w w' : World} (h : NodI B W0 L a w) (hb : Below w.heap.size w w') (hB : B ≤ w.heap.size) (hi : i ≠ 3 ∧ i ≠ 6) : NodI B W0 (L.setIfInBounds i true) a' w' :=
  ⟨h.1.trans (hb.mono hB), fun e => getD_mono (h.2.1 (getD_of hi.1 e)), fun e => getD_mono (h.2.2 (getD_of hi.2 e))⟩
section
variable {ops : Array Oper}
set_option maxHeartbeats 4000000 in
/-- The region of a rule's nodes. -/
theorem nod_append {w : World} {B n m c : Nat} {ok : Nat → Prop} {v : Value} {A : Option Addr} {ns ms : List Zq.Nd} (ty : TypeId) (hown : w.ownsRow B 44 5 v n (ncells ns)) (hE : NsE w ok (.slice A m c) ms) (hm : ms.length = m) (h : n + m ≤ 1000) (hB : B ≤ w.heap.size) :
    ∃ A' c' w', (Builtin.append_ #[22, 22] ty #[v, .slice A m c]).run Tryd.prog w = .ok (.slice A' (n + m) c') w' ∧ w'.ownsRow B 44 5 (.slice A' (n + m) c') (n + m) (ncells (ns ++ ms)) ∧ w.grownBy w' v.ownBlock := by
  obtain ⟨i, hi, h1, h2, h3⟩ := info_parts infoNodeM
  have hS := hE.sl
  rw [hm] at hS
  obtain ⟨v', w', k1, k2, k3, _⟩ := run_append_sl 22 ty 44 i _ Tryd.underlying22 hi h1 h2 h3 rfl (by decide) hown hS (by rw [ncells_length, hm]) (ncells_ones _) (by unfold maxLen; omega) (by omega) hB
  obtain ⟨A', c', rfl⟩ := own_slice k2
  rw [← ncells_append] at k2
  exact ⟨A', c', w', k1, k2, k3⟩
end
end Go.Proofs.YtnbaajdcakjlmaaDoor
