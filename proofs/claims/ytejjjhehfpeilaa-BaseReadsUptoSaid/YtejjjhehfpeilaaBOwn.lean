/-
  Rows of the call's own: append of one value, append of bytes that came in.
-/
import Derived.Test.YtejjjhehfpeilaaBAlive
import Derived.Laws.AppendOwnNone
namespace Go.Proofs.Ytejjjhehfpeilaa
open Go.RowKit

theorem own_ge {w : World} {base : Nat} {e : TypeId} {size n : Nat} {v : Value} {xs : List Value} (h : w.ownsRow base e size v n xs) : ∀ b, v.ownBlock = some b → base ≤ b := by
  rcases h.2 with ⟨rfl, _⟩ | ⟨g, cap, cur, rfl, hg, _⟩
  · intro b hb; simp [Value.ownBlock] at hb
  · intro b hb; simp [Value.ownBlock] at hb; omega
theorem own_slice {w : World} {base : Nat} {e : TypeId} {size n : Nat} {v : Value} {xs : List Value} (h : w.ownsRow base e size v n xs) : ∃ A cap, v = .slice A n cap := by
  rcases h.2 with ⟨rfl, rfl⟩ | ⟨g, cap, cur, rfl, _⟩
  · exact ⟨_, _, rfl⟩
  · exact ⟨_, _, rfl⟩
theorem own_form {w : World} {base : Nat} {e : TypeId} {size n : Nat} {v : Value} {xs : List Value} (h : w.ownsRow base e size v n xs) (hn : 0 < n) : ∃ g cap, v = .slice (some ⟨g, 0, none⟩) n cap := by
  rcases h.2 with ⟨_, h0⟩ | ⟨g, cap, cur, rfl, _⟩
  · omega
  · exact ⟨g, cap, rfl⟩
theorem own_below {w w' : World} {base : Nat} {e : TypeId} {size n : Nat} {v : Value} {xs : List Value} (h : w.ownsRow base e size v n xs) (hb : Below w.heap.size w w') : w'.ownsRow base e size v n xs := by
  refine ⟨h.1, ?_⟩
  rcases h.2 with hn | ⟨g, cap, cur, rfl, hB, hgg, rest⟩
  · exact .inl hn
  · exact .inr ⟨g, cap, cur, rfl, hB, (hb.block g (Array.getElem?_eq_some_iff.1 hgg).1).trans hgg, rest⟩
theorem src_at {w : World} {b off : Nat} {q : List Nat} (h : BytesAt w b off q) {i : Nat} {v : Value} (hv : (u8s q)[i]? = some v) : w.cell? ((⟨b, off, none⟩ : Addr).add i) = some v := by
  simp only [u8s, List.getElem?_map, Option.map_eq_some_iff] at hv
  obtain ⟨x, hx, rfl⟩ := hv
  rw [Addr.add_lit]
  exact (h i x hx).2

section
variable {ops : Array Oper} {rest : List Oper} {o : Oper} {a : Act} {Q : Exit → Act → World → Prop} {w : World}
/-- append of one value that was just laid. -/
theorem append_one (hgd : o.guard = none) (s x : Operand) (t e : TypeId) (z : Value) (bytes : Nat)
    (ho : o.op = .call { callee := .builtin .append, args := #[s, x], argTypes := #[t, t] }) (ht : Try.prog.underlying t = some (.slice e))
    (hi : (Try.prog.info? e).map (fun i => (i.zero, i.size, i.bytes)) = some (some z, 1, bytes)) (hz : z.cells.size = 1)
    (base : Nat) (v : Value) (n : Nat) (xs : List Value) (h : Nat) (u : Value) (hown : w.ownsRow base e 1 v n xs) (hc : w.cell? ⟨h, 0, none⟩ = some u) (h1 : u.oneCell' = true)
    (hs : a.eval s = v) (hx : a.eval x = .slice (some ⟨h, 0, none⟩) 1 1) (hb : (n + 1) * bytes ≤ 140737488355328) (hm : n + 1 ≤ 140737488355328) (hbase : base ≤ w.heap.size)
    (hK : ∀ v' w', w'.ownsRow base e 1 v' (n + 1) (xs ++ [u]) → w.grownBy w' v.ownBlock → wpList Try.prog ops Q rest (a.put o.dst v') w') : wpList Try.prog ops Q (o :: rest) a w := by
  refine wpList_plain hgd fun K hK' => ?_
  obtain ⟨i0, hi0, hz0, hz1, hz2⟩ := info_parts hi
  obtain ⟨v', w', hrun, h2, h3, _⟩ := run_append_own (P := Try.prog) w base t o.type e i0 z 1 bytes ht hi0 hz0 hz1 hz2 hz (by decide) v n xs hown ⟨h, 0, none⟩ 1 1 [u] (by simp)
    (fun j y hj => by
      have hj0 : j = 0 := by
        have := (List.getElem?_eq_some_iff.1 hj).1
        simp at this; omega
      subst hj0
      simp at hj
      subst hj
      exact hc)
    (by simpa using h1) (by unfold maxLen; omega) hb hbase
  unfold Oper.wp
  simp [execOp, ho, resolve, invoke, builtin, hs, hx, hrun, Result.andThen]
  exact hK' _ _ (hK v' w' h2 h3)

/-- append of bytes that came in, whatever their address, onto a row of the call's own. -/
theorem run_append_arg {base n : Nat} {v : Value} {xs : List Value} {A : Option Addr} {c : Nat} {q : List Nat} (ty : TypeId) (hown : w.ownsRow base 5 1 v n xs) (hq : ArgIs w A c q)
    (hb : n + q.length ≤ 140737488355328) (hbase : base ≤ w.heap.size) :
    ∃ v' w', (Builtin.append_ #[22, 22] ty #[v, .slice A q.length c]).run Try.prog w = .ok v' w' ∧ w'.ownsRow base 5 1 v' (n + q.length) (xs ++ u8s q) ∧ w.grownBy w' v.ownBlock := by
  obtain ⟨i0, hi, hz0, hz1, hz2⟩ := info_parts info5b
  have h63 : n + q.length ≤ maxLen := by unfold maxLen; omega
  have main : ∀ a : Addr, A = some a → (∀ j u, (u8s q)[j]? = some u → w.cell? (a.add j) = some u) →
      ∃ v' w', (Builtin.append_ #[22, 22] ty #[v, .slice A q.length c]).run Try.prog w = .ok v' w' ∧ w'.ownsRow base 5 1 v' (n + q.length) (xs ++ u8s q) ∧ w.grownBy w' v.ownBlock := by
    rintro a rfl ha
    obtain ⟨v', w', h1, h2, h3, _⟩ := run_append_own (P := Try.prog) w base 22 ty 5 i0 (.int .u8 0) 1 1 Try.underlying22 hi hz0 hz1 hz2 rfl (by decide) v n xs hown a q.length c (u8s q) (by rw [u8s_length]; omega) ha (u8s_one q) h63 (by omega) hbase
    exact ⟨v', w', h1, h2, h3⟩
  rcases Nat.eq_zero_or_pos q.length with h0 | h0
  · obtain rfl : q = [] := List.eq_nil_of_length_eq_zero h0
    cases A with
    | some a => exact main a rfl (fun j u hj => by simp [u8s] at hj)
    | none =>
      refine ⟨v, w, ?_, by simpa [u8s] using hown, World.grownBy.refl w _⟩
      rcases hown.2 with ⟨rfl, rfl⟩ | ⟨g, cap, cur, rfl, _, _, hnc, _⟩
      · simp [Builtin.append_, run_underlying Try.underlying22, sizeOf, typeInfo, hi, Builtin.lenOf, Builtin.firstCells]
      · simp [Builtin.append_, run_underlying Try.underlying22, sizeOf, typeInfo, hi, Builtin.lenOf, Builtin.firstCells, hnc, storeCells]
  · obtain ⟨b, off, rfl, _, hby⟩ := hq.2.2.2 h0
    exact main _ rfl (fun j u hj => src_at hby hj)
theorem append_arg (hgd : o.guard = none) (s x : Operand)
    (ho : o.op = .call { callee := .builtin .append, args := #[s, x], argTypes := #[22, 22] })
    (base : Nat) (v : Value) (n : Nat) (xs : List Value) (A : Option Addr) (c : Nat) (q : List Nat) (hown : w.ownsRow base 5 1 v n xs) (hq : ArgIs w A c q)
    (hs : a.eval s = v) (hx : a.eval x = .slice A q.length c) (hb : n + q.length ≤ 140737488355328) (hbase : base ≤ w.heap.size)
    (h : ∀ v' w', w'.ownsRow base 5 1 v' (n + q.length) (xs ++ u8s q) → w.grownBy w' v.ownBlock → wpList Try.prog ops Q rest (a.put o.dst v') w') : wpList Try.prog ops Q (o :: rest) a w := by
  refine wpList_plain hgd fun K hK => ?_
  obtain ⟨v', w', hrun, h2, h3⟩ := run_append_arg o.type hown hq hb hbase
  unfold Oper.wp
  simp [execOp, ho, resolve, invoke, builtin, hs, hx, hrun, Result.andThen]
  exact hK _ _ (h v' w' h2 h3)
end

/-- A row of the call's own, as bytes that came in. -/
theorem own_arg {w : World} {base : Nat} {A : Option Addr} {n c : Nat} {q : List Nat} (h : w.ownsRow base 5 1 (.slice A n c) n (u8s q)) (hq : ∀ x ∈ q, x < 256) : q.length = n ∧ ArgIs w A c q := by
  have hl : q.length = n := by have := h.1; rw [u8s_length] at this; omega
  refine ⟨hl, ?_⟩
  rcases h.2 with ⟨e, h0⟩ | ⟨g, cap, cur, e, hb, hh, hc, hm, hs, ht⟩
  · have hc0 : c = 0 := by simpa using congrArg (fun v => match v with | Value.slice _ _ k => k | _ => 0) e
    exact ⟨by omega, by omega, hq, fun hp => by omega⟩
  · have hc0 : c = cap := by simpa using congrArg (fun v => match v with | Value.slice _ _ k => k | _ => 0) e
    have hA : A = some ⟨g, 0, none⟩ := by simpa using congrArg (fun v => match v with | Value.slice a _ _ => a | _ => none) e
    subst hc0 hA
    unfold maxLen at hm
    refine ⟨by omega, by omega, hq, fun hp => ⟨g, 0, rfl, ?_, fun j x hj => ⟨hq x (List.mem_of_getElem? hj), ?_⟩⟩⟩
    · rcases Nat.lt_or_ge g w.heap.size with hlt | hge
      · exact hlt
      · rw [Array.getElem?_eq_none hge] at hh; cases hh
    · have hj' : j < n := by have := (List.getElem?_eq_some_iff.1 hj).1; omega
      rw [Nat.zero_add, cell_of_row w g j cur _ _ hh]
      have e2 : cur.toList[j]? = (u8s q)[j]? := by rw [← ht, List.getElem?_take, if_pos (by omega)]
      rw [← Array.getElem?_toList, e2]
      simp [u8s, hj]
end Go.Proofs.Ytejjjhehfpeilaa
