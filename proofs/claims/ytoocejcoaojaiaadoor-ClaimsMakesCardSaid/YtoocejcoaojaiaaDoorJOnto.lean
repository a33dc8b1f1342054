/-
  append of a row onto an empty row of the call's own.
-/
import Derived.Test.YtoocejcoaojaiaaDoorQJ
namespace Go.Proofs.YtoocejcoaojaiaaDoor
open Go.RowKit

theorem run_append_rows {w : World} {base n size bytes h : Nat} {ok : Nat → Prop} {A : Option Addr} {c : Nat} {cs : List Value} (t ty e : TypeId) (i : TypeInfo) (z : Value)
    (ht : Tryd.prog.underlying t = some (.slice e)) (hi : Tryd.prog.info? e = some i) (hz : i.zero = some z) (hsize : i.size = size) (hby : i.bytes = bytes) (hzs : z.cells.size = size) (hsz : 0 < size)
    (hw : w.ownsRow base e size (.slice (some ⟨h, 0, none⟩) 0 0) 0 []) (hS : SlIs w ok (.slice A n c) n cs) (hl : cs.length = n * size) (h1 : ∀ u ∈ cs, u.oneCell' = true)
    (hb : n * bytes ≤ 140737488355328) (h63 : n ≤ maxLen) (hbase : base ≤ w.heap.size) :
    ∃ v' w', (Builtin.append_ #[t, t] ty #[.slice (some ⟨h, 0, none⟩) 0 0, .slice A n c]).run Tryd.prog w = .ok v' w' ∧ w'.ownsRow base e size v' n cs ∧ w.grownBy w' (some h) ∧ (v'.ownBlock = some h ∨ v'.ownBlock = some w.heap.size) := by
  have main : ∀ a : Addr, A = some a → (∀ j u, cs[j]? = some u → w.cell? (a.add j) = some u) →
      ∃ v' w', (Builtin.append_ #[t, t] ty #[.slice (some ⟨h, 0, none⟩) 0 0, .slice A n c]).run Tryd.prog w = .ok v' w' ∧ w'.ownsRow base e size v' n cs ∧ w.grownBy w' (some h) ∧ (v'.ownBlock = some h ∨ v'.ownBlock = some w.heap.size) := by
    rintro a rfl ha
    obtain ⟨v', w', h2, h3, h4, _, h5⟩ := run_append_own_at (P := Tryd.prog) (w := w) base t ty e i z size bytes ht hi hz hsize hby hzs hsz (.slice (some ⟨h, 0, none⟩) 0 0) 0 [] hw a n c cs hl ha h1 (by omega) (by rw [Nat.zero_add]; exact hb) hbase
    rw [Nat.zero_add, List.nil_append] at h3
    exact ⟨v', w', h2, h3, h4, h5⟩
  obtain ⟨A', c', e', _, _, h3⟩ := hS
  injection e' with e1 e2 e3
  subst e1 e3
  rcases Nat.eq_zero_or_pos n with h0 | h0
  · subst h0
    have hcs : cs = [] := List.eq_nil_of_length_eq_zero (by rw [hl, Nat.zero_mul])
    subst hcs
    cases A with
    | some a => exact main a rfl (fun j u hj => by simp at hj)
    | none =>
      refine ⟨.slice (some ⟨h, 0, none⟩) 0 0, w, ?_, hw, World.grownBy.refl w _, .inl rfl⟩
      simp [Builtin.append_, run_underlying ht, sizeOf, typeInfo, hi, Builtin.lenOf, Builtin.firstCells, storeCells, Result.andThen]
  · obtain ⟨b, off, rfl, _, _, hc⟩ := h3 h0
    exact main _ rfl (fun j u hj => by rw [Addr.add_lit]; exact hc j u hj)
theorem append_rows {ops : Array Oper} {rest : List Oper} {o : Oper} {a : Act} {Q : Exit → Act → World → Prop} {w : World} (hgd : o.guard = none) (s x : Operand) (t : TypeId)
    (ho : o.op = .call { callee := .builtin .append, args := #[s, x], argTypes := #[t, t] })
    {base n size bytes h : Nat} {ok : Nat → Prop} {A : Option Addr} {c : Nat} {cs : List Value} (e : TypeId) (i : TypeInfo) (z : Value)
    (ht : Tryd.prog.underlying t = some (.slice e)) (hi : Tryd.prog.info? e = some i) (hz : i.zero = some z) (hsize : i.size = size) (hby : i.bytes = bytes) (hzs : z.cells.size = size) (hsz : 0 < size)
    (hs : a.eval s = .slice (some ⟨h, 0, none⟩) 0 0) (hx : a.eval x = .slice A n c)
    (hw : w.ownsRow base e size (.slice (some ⟨h, 0, none⟩) 0 0) 0 []) (hS : SlIs w ok (.slice A n c) n cs) (hl : cs.length = n * size) (h1 : ∀ u ∈ cs, u.oneCell' = true)
    (hb : n * bytes ≤ 140737488355328) (h63 : n ≤ maxLen) (hbase : base ≤ w.heap.size)
    (hK : ∀ v' w', w'.ownsRow base e size v' n cs → w.grownBy w' (some h) → (v'.ownBlock = some h ∨ v'.ownBlock = some w.heap.size) → wpList Tryd.prog ops Q rest (a.put o.dst v') w') : wpList Tryd.prog ops Q (o :: rest) a w := by
  refine wpList_plain hgd fun K hK2 => ?_
  obtain ⟨v', w', hrun, h2, h3, h4⟩ := run_append_rows t o.type e i z ht hi hz hsize hby hzs hsz hw hS hl h1 hb h63 hbase
  unfold Oper.wp
  simp [execOp, ho, resolve, invoke, builtin, hs, hx, hrun, Result.andThen]
  exact hK2 _ _ (hK v' w' h2 h3 h4)
theorem tcells_ones (ns : List (List Nat)) : ∀ u ∈ tcells ns, u.oneCell' = true := fun u hu => by
  simp only [tcells, List.mem_map] at hu
  obtain ⟨p, _, rfl⟩ := hu
  rfl
theorem row_ones {w : World} {ok : Nat → Prop} {vs : List Value} {l : List Jq.J} (hl : vs.length = l.length) (h : ∀ (i : Nat) v x, vs[i]? = some v → l[i]? = some x → IsJ w ok v x) : ∀ u ∈ vs.flatMap jcells, u.oneCell' = true := by
  intro u hu
  obtain ⟨v, hv, hu⟩ := List.mem_flatMap.1 hu
  obtain ⟨i, hi, e⟩ := List.getElem_of_mem hv
  have hJ := h i v (l[i]'(by omega)) (by rw [List.getElem?_eq_getElem hi, e]) (List.getElem?_eq_getElem _)
  obtain ⟨A1, c1, A2, c2, rfl⟩ := hJ.form
  exact jv_ones _ _ _ _ _ _ _ _ _ _ u hu
end Go.Proofs.YtoocejcoaojaiaaDoor
