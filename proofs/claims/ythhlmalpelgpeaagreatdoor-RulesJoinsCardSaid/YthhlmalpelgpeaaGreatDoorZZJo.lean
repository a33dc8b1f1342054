/-
  The law RulesJoins.
-/
import Derived.Test.YthhlmalpelgpeaaGreatDoorZZLa
import Derived.Test.YthhlmalpelgpeaaGreatDoorG16
import Derived.ArgAppend
namespace Go.Proofs.YthhlmalpelgpeaaGreatDoor
open Go.RowKit

theorem rcells3_ones : ∀ (us : List (List Nat × Value × Value)), (∀ u ∈ us, u.2.1.oneCell' = true ∧ u.2.2.oneCell' = true) → ∀ x ∈ rcells3 us, x.oneCell' = true := by
  intro us h x hx
  obtain ⟨u, hu, hx⟩ := List.mem_flatMap.1 hx
  simp at hx
  rcases hx with rfl | rfl | rfl
  · rfl
  · exact (h u hu).1
  · exact (h u hu).2
section
variable {ops : Array Oper} {rest : List Oper} {o : Oper} {a : Act} {Q : Exit → Act → World → Prop} {w : World}
/-- append of rules that came in, or that were read, onto a row of the call's own. -/
theorem run_append_rules {base n : Nat} {v : Value} {xs : List Value} {A : Option Addr} {c m : Nat} (ty : TypeId) {us : List (List Nat × Value × Value)} (hown : w.ownsRow base 35 3 v n xs) (hm : us.length = m)
    (h1u : ∀ u ∈ us, u.2.1.oneCell' = true ∧ u.2.2.oneCell' = true)
    (hq : 0 < m → ∃ b off, A = some ⟨b, off, none⟩ ∧ ∀ j x, (rcells3 us)[j]? = some x → w.cell? ⟨b, off + j, none⟩ = some x)
    (hb : (n + m) * 64 ≤ 140737488355328) (hbase : base ≤ w.heap.size) :
    ∃ v' w', (Builtin.append_ #[22, 22] ty #[v, .slice A m c]).run Tryz.prog w = .ok v' w' ∧ w'.ownsRow base 35 3 v' (n + m) (xs ++ rcells3 us) ∧ w.grownBy w' v.ownBlock := by
  obtain ⟨i0, hi, hz0, hz1, hz2⟩ := info_parts infoRule
  have h63 : n + m ≤ maxLen := by unfold maxLen; omega
  have main : ∀ a : Addr, A = some a → (∀ j u, (rcells3 us)[j]? = some u → w.cell? (a.add j) = some u) →
      ∃ v' w', (Builtin.append_ #[22, 22] ty #[v, .slice A m c]).run Tryz.prog w = .ok v' w' ∧ w'.ownsRow base 35 3 v' (n + m) (xs ++ rcells3 us) ∧ w.grownBy w' v.ownBlock := by
    rintro a rfl ha
    obtain ⟨v', w', h1, h2, h3, _⟩ := run_append_own (P := Tryz.prog) w base 22 ty 35 i0 (.agg #[.string ByteArray.empty, .slice none 0 0, .slice none 0 0]) 3 64 Tryz.underlying22 hi hz0 hz1 hz2 rfl (by decide) v n xs hown a m c (rcells3 us) (by rw [rcells3_length, hm]) ha (rcells3_ones us h1u) h63 hb hbase
    exact ⟨v', w', h1, h2, h3⟩
  rcases Nat.eq_zero_or_pos m with h0 | h0
  · obtain rfl : us = [] := List.eq_nil_of_length_eq_zero (by omega)
    cases A with
    | some a => exact main a rfl (fun j u hj => by simp [rcells3] at hj)
    | none =>
      subst h0
      refine ⟨v, w, ?_, by simpa [rcells3] using hown, World.grownBy.refl w _⟩
      rcases hown.2 with ⟨rfl, rfl⟩ | ⟨g, cap, cur, rfl, _, _, hnc, _⟩
      · simp [Builtin.append_, run_underlying Tryz.underlying22, sizeOf, typeInfo, hi, Builtin.lenOf, Builtin.firstCells]
      · simp [Builtin.append_, run_underlying Tryz.underlying22, sizeOf, typeInfo, hi, Builtin.lenOf, Builtin.firstCells, hnc, storeCells]
  · obtain ⟨b, off, rfl, hc⟩ := hq h0
    exact main _ rfl (fun j u hj => by rw [Addr.add_lit]; exact hc j u hj)
set_option maxRecDepth 100000 in
theorem append_rules (hw : Region.wanted o (yielded ops a.tmps) = true) (s x : Operand)
    (ho : o.op = .call { callee := .builtin .append, args := #[s, x], argTypes := #[22, 22] })
    (base : Nat) (v : Value) (n : Nat) (xs : List Value) (A : Option Addr) (c m : Nat) (us : List (List Nat × Value × Value)) (hown : w.ownsRow base 35 3 v n xs) (hm : us.length = m)
    (h1u : ∀ u ∈ us, u.2.1.oneCell' = true ∧ u.2.2.oneCell' = true)
    (hq : 0 < m → ∃ b off, A = some ⟨b, off, none⟩ ∧ ∀ j x, (rcells3 us)[j]? = some x → w.cell? ⟨b, off + j, none⟩ = some x)
    (hs : a.eval s = v) (hx : a.eval x = .slice A m c) (hb : (n + m) * 64 ≤ 140737488355328) (hbase : base ≤ w.heap.size)
    (h : ∀ v' w', w'.ownsRow base 35 3 v' (n + m) (xs ++ rcells3 us) → w.grownBy w' v.ownBlock → wpList Tryz.prog ops Q rest (a.put o.dst v') w') : wpList Tryz.prog ops Q (o :: rest) a w := by
  refine wpList_step fun K hK => ?_
  rw [if_pos hw]
  obtain ⟨v', w', hrun, h2, h3⟩ := run_append_rules o.type hown hm h1u hq hb hbase
  unfold Oper.wp
  simp [execOp, ho, resolve, invoke, builtin, hs, hx, Result.andThen]
  rw [hrun]
  exact hK _ _ (h v' w' h2 h3)
end
/-- What lies behind rules in memory. -/
theorem RsE.parts {w : World} {ok : Nat → Prop} {A : Option Addr} {n c : Nat} {rs : List Zq.Rl} (h : RsE w ok (.slice A n c) rs) : rs.length = n ∧ ∃ us : List (List Nat × Value × Value), us.length = n ∧ (∀ (i : Nat) u r, us[i]? = some u → rs[i]? = some r → RlE w ok u r) ∧ (∀ u ∈ us, u.2.1.oneCell' = true ∧ u.2.2.oneCell' = true) ∧ (0 < n → ∃ b off, A = some ⟨b, off, none⟩ ∧ b < w.heap.size ∧ ∀ j x, (rcells3 us)[j]? = some x → w.cell? ⟨b, off + j, none⟩ = some x) := by
  obtain ⟨A', c', e, h1, h2, us, h4, h5, h6⟩ := h
  injection e with e1 e2 e3
  subst e1 e2 e3
  refine ⟨rfl, us, h4, h5, fun u hu => ?_, fun hp => ?_⟩
  · obtain ⟨i, hi⟩ := List.getElem?_of_mem hu
    have hlt := (List.getElem?_eq_some_iff.1 hi).1
    obtain ⟨_, _, g1, g2⟩ := h5 i u (rs[i]'(by omega)) hi (List.getElem?_eq_getElem (by omega))
    obtain ⟨_, _, e1⟩ := g1.form
    obtain ⟨_, _, e2⟩ := g2.form
    rw [e1, e2]
    exact ⟨rfl, rfl⟩
  · obtain ⟨b, off, e, _, k2, k3⟩ := h6 hp
    exact ⟨b, off, e, k2, k3⟩
theorem at_append {α : Type} {l m : List α} {i : Nat} {x : α} (h : (l ++ m)[i]? = some x) : (i < l.length ∧ l[i]? = some x) ∨ (l.length ≤ i ∧ m[i - l.length]? = some x) := by
  rcases Nat.lt_or_ge i l.length with h' | h'
  · rw [List.getElem?_append_left h'] at h
    exact .inl ⟨h', h⟩
  · rw [List.getElem?_append_right h'] at h
    exact .inr ⟨h', h⟩
/-- Two rows of rules, copied one behind the other into a row of the call's own. -/
theorem RsE.joined {w : World} {base n : Nat} {e : TypeId} {v : Value} {us vs : List (List Nat × Value × Value)} {rs qs : List Zq.Rl} (hown : w.ownsRow base e 3 v n (rcells3 (us ++ vs))) (hn : n = rs.length + qs.length) (hu : us.length = rs.length) (hv : vs.length = qs.length)
    (h1 : ∀ (i : Nat) u r, us[i]? = some u → rs[i]? = some r → RlE w (fun _ => True) u r) (h2 : ∀ (i : Nat) u r, vs[i]? = some u → qs[i]? = some r → RlE w (fun _ => True) u r) :
    RsE w (fun _ => True) v (rs ++ qs) := by
  obtain ⟨A, c, e, k1, k2, k3⟩ := own_slIs hown
  subst hn
  refine ⟨A, c, by rw [List.length_append]; exact e, by rw [List.length_append]; exact k1, k2, us ++ vs, by simp [hu, hv], fun i u r e1 e2 => ?_, fun hp => ?_⟩
  · rcases at_append e1 with ⟨l1, a1⟩ | ⟨l1, a1⟩
    · rcases at_append e2 with ⟨_, a2⟩ | ⟨l2, _⟩
      · exact h1 i u r a1 a2
      · omega
    · rcases at_append e2 with ⟨l2, _⟩ | ⟨_, a2⟩
      · omega
      · rw [hu] at a1
        exact h2 _ u r a1 a2
  · rw [List.length_append] at hp
    obtain ⟨b, off, e, _, k5, k6⟩ := k3 hp
    exact ⟨b, off, e, trivial, k5, k6⟩
theorem RsE.any {w : World} {ok : Nat → Prop} {v : Value} {rs : List Zq.Rl} (h : RsE w ok v rs) : RsE w (fun _ => True) v rs := h.keep (Nat.le_refl _) (fun _ _ _ => ⟨trivial, rfl⟩)
theorem last_step {S : List Nat} {k x : Nat} (hx : S[k]? = some x) : Zq.lastB (S.take (k + 1)) = if Zq.blank x = true then Zq.lastB (S.take k) else x := by
  obtain ⟨hk, e⟩ := List.getElem?_eq_some_iff.1 hx
  unfold Zq.lastB
  rw [List.take_succ_eq_append_getElem hk, e, List.filter_append]
  by_cases h : Zq.blank x = true
  · simp [h]
  · simp [h]
theorem nums_semi (s t : ByteArray) : numsOf (s ++ { data := #[59] } ++ t) = numsOf s ++ 59 :: numsOf t := by simp [numsOf]
end Go.Proofs.YthhlmalpelgpeaaGreatDoor
