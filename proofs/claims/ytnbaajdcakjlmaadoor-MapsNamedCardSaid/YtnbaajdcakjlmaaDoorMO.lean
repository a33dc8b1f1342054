/-
  append of rules that came in onto a row of the call's own.
-/
import Derived.Test.YtnbaajdcakjlmaaDoorMN
namespace Go.Proofs.YtnbaajdcakjlmaaDoor
open Go.RowKit

theorem infoRule : (Tryd.prog.info? 42).map (fun i => (i.zero, i.size, i.bytes)) = some (some (.agg #[.string ByteArray.empty, nilS, nilS]), 3, 64) := by kernel_rfl
theorem rcells3_length (us : List (List Nat × Value × Value)) : (rcells3 us).length = us.length * 3 := by
  induction us with
  | nil => rfl
  | cons a r ih =>
    have : rcells3 (a :: r) = rcell a ++ rcells3 r := rfl
    rw [this, List.length_append, ih]
    simp; omega
theorem rcells3_append (us vs : List (List Nat × Value × Value)) : rcells3 (us ++ vs) = rcells3 us ++ rcells3 vs := by simp [rcells3]
/-- Rules in memory; us: what each is made of. -/
def RsU (w : World) (ok : Nat → Prop) (v : Value) (us : List (List Nat × Value × Value)) (rs : List Zq.Rl) : Prop :=
  us.length = rs.length ∧ (∀ (i : Nat) u r, us[i]? = some u → rs[i]? = some r → RlE w ok u r) ∧ ∃ A c, v = .slice A rs.length c ∧ rs.length ≤ c ∧ c ≤ 9223372036854775807 ∧
    (0 < rs.length → ∃ b off, A = some ⟨b, off, none⟩ ∧ ok b ∧ b < w.heap.size ∧ ∀ j x, (rcells3 us)[j]? = some x → w.cell? ⟨b, off + j, none⟩ = some x)
theorem RsE.parts {w : World} {ok : Nat → Prop} {v : Value} {rs : List Zq.Rl} (h : RsE w ok v rs) : ∃ us, RsU w ok v us rs := by
  obtain ⟨A, c, e, h1, h2, us, h3, h4, h5⟩ := h
  exact ⟨us, h3, h4, A, c, e, h1, h2, h5⟩
theorem RsE.low {w : World} {ok : Nat → Prop} {v : Value} {rs : List Zq.Rl} {B : Nat} (h : RsE w ok v rs) (hB : w.heap.size ≤ B) : RsE w (· < B) v rs :=
  h.keep (Nat.le_refl _) (fun _ _ hlt => ⟨Nat.lt_of_lt_of_le hlt hB, rfl⟩)
theorem rl_ones {w : World} {ok : Nat → Prop} {us : List (List Nat × Value × Value)} {rs : List Zq.Rl} (hl : us.length = rs.length) (h : ∀ (i : Nat) u r, us[i]? = some u → rs[i]? = some r → RlE w ok u r) : ∀ x ∈ rcells3 us, x.oneCell' = true := by
  intro x hx
  obtain ⟨u, hu, hxu⟩ := List.mem_flatMap.1 hx
  obtain ⟨i, hi, rfl⟩ := List.mem_iff_getElem.1 hu
  obtain ⟨_, _, h4, h5⟩ := h i _ _ (List.getElem?_eq_getElem hi) (List.getElem?_eq_getElem (by omega))
  obtain ⟨A1, c1, e1⟩ := h4.form
  obtain ⟨A2, c2, e2⟩ := h5.form
  simp only [rcell, List.mem_cons, List.not_mem_nil, or_false] at hxu
  rcases hxu with rfl | rfl | rfl
  · rfl
  · rw [e1]; rfl
  · rw [e2]; rfl
/-- A row of rules of the call's own, from block B on; what the rules hold lies below B. -/
def RsOwn (B : Nat) (v : Value) (rs : List Zq.Rl) (w : World) : Prop :=
  ∃ us, us.length = rs.length ∧ w.ownsRow B 42 3 v rs.length (rcells3 us) ∧ ∀ (i : Nat) u r, us[i]? = some u → rs[i]? = some r → RlE w (· < B) u r
theorem RsOwn.on {B : Nat} {v : Value} {rs : List Zq.Rl} {w w' : World} (h : RsOwn B v rs w) (hb : Below w.heap.size w w') : RsOwn B v rs w' := by
  obtain ⟨us, h1, h2, h3⟩ := h
  exact ⟨us, h1, own_below h2 hb, fun i u r e1 e2 => (h3 i u r e1 e2).more hb⟩
theorem RsOwn.drew {B : Nat} {v : Value} {rs : List Zq.Rl} {w : World} (h : RsOwn B v rs w) : RsOwn B v rs w.drew := h
theorem RsOwn.toE {B : Nat} {v : Value} {rs : List Zq.Rl} {w : World} (h : RsOwn B v rs w) : RsE w (fun _ => True) v rs := by
  obtain ⟨us, h1, h2, h3⟩ := h
  obtain ⟨A, c, e, g1, g2, g3⟩ := own_slIs h2
  refine ⟨A, c, e, g1, g2, us, h1, fun i u r e1 e2 => (h3 i u r e1 e2).keep (Nat.le_refl _) (fun _ _ _ => ⟨trivial, rfl⟩), fun h => ?_⟩
  obtain ⟨b, off, k1, _, k2, k3⟩ := g3 h
  exact ⟨b, off, k1, trivial, k2, k3⟩
theorem RsOwn.blk {B : Nat} {v : Value} {rs : List Zq.Rl} {w : World} (h : RsOwn B v rs w) : ∀ k, v.ownBlock = some k → B ≤ k := by
  obtain ⟨us, _, h2, _⟩ := h
  exact fun k e => (h2.lt k e).1
theorem RsOwn.slice {B : Nat} {v : Value} {rs : List Zq.Rl} {w : World} (h : RsOwn B v rs w) : ∃ A c, v = .slice A rs.length c := by
  obtain ⟨us, _, h2, _⟩ := h
  exact own_slice h2
theorem run_append_rules {w : World} {B m c : Nat} {v : Value} {A : Option Addr} {rs qs : List Zq.Rl} (ty : TypeId) (hown : RsOwn B v rs w) (hq : RsE w (· < B) (.slice A m c) qs) (hm : qs.length = m) (hb : (rs.length + m) * 64 ≤ 140737488355328) (hbase : B ≤ w.heap.size) :
    ∃ v' w', (Builtin.append_ #[39, 39] ty #[v, .slice A m c]).run Tryd.prog w = .ok v' w' ∧ RsOwn B v' (rs ++ qs) w' ∧ w.grownBy w' v.ownBlock := by
  obtain ⟨i0, hi, hz0, hz1, hz2⟩ := info_parts infoRule
  have h63 : rs.length + m ≤ maxLen := by unfold maxLen; omega
  obtain ⟨us, hu1, hu2, hu3⟩ := hown
  obtain ⟨vs, hv1, hv2, A', c', e, h1, h2, h5⟩ := hq.parts
  have fin : ∀ v' w', w'.ownsRow B 42 3 v' (rs.length + m) (rcells3 us ++ rcells3 vs) → w.grownBy w' v.ownBlock → RsOwn B v' (rs ++ qs) w' := by
    intro v' w' ho hg
    have key : ∀ {u : List Nat × Value × Value} {r : Zq.Rl}, RlE w (· < B) u r → RlE w' (· < B) u r := fun h => h.keep hg.size (fun b hbB hlt => ⟨hbB, hg.block b hlt (fun e => by have := (hu2.lt b e.symm).1; have hbB : b < B := hbB; omega)⟩)
    refine ⟨us ++ vs, by simp [hu1, hv1], by rw [rcells3_append, List.length_append, hm]; exact ho, fun i u r e1 e2 => ?_⟩
    by_cases hi : i < rs.length
    · rw [List.getElem?_append_left (by omega)] at e1
      rw [List.getElem?_append_left hi] at e2
      exact key (hu3 i u r e1 e2)
    · rw [List.getElem?_append_right (by omega), hu1] at e1
      rw [List.getElem?_append_right (by omega)] at e2
      exact key (hv2 _ u r e1 e2)
  have main : ∀ a : Addr, A = some a → (∀ j u, (rcells3 vs)[j]? = some u → w.cell? (a.add j) = some u) →
      ∃ v' w', (Builtin.append_ #[39, 39] ty #[v, .slice A m c]).run Tryd.prog w = .ok v' w' ∧ RsOwn B v' (rs ++ qs) w' ∧ w.grownBy w' v.ownBlock := by
    rintro a rfl ha
    obtain ⟨v', w', k1, k2, k3, _⟩ := run_append_own (P := Tryd.prog) w B 39 ty 42 i0 (.agg #[.string ByteArray.empty, nilS, nilS]) 3 64 Tryd.underlying39 hi hz0 hz1 hz2 rfl (by decide) v rs.length (rcells3 us) hu2 a m c (rcells3 vs) (by rw [rcells3_length, hv1, hm]) ha (rl_ones hv1 hv2) h63 hb hbase
    exact ⟨v', w', k1, fin _ _ k2 k3, k3⟩
  injection e with e1 e2 e3
  subst e1 e3
  rcases Nat.eq_zero_or_pos m with h0 | h0
  · obtain rfl : qs = [] := List.eq_nil_of_length_eq_zero (by omega)
    obtain rfl : vs = [] := List.eq_nil_of_length_eq_zero (by simpa using hv1)
    cases A with
    | some a => exact main a rfl (fun j u hj => by simp [rcells3] at hj)
    | none =>
      subst h0
      refine ⟨v, w, ?_, fin v w (by simpa [rcells3] using hu2) (World.grownBy.refl w _), World.grownBy.refl w _⟩
      have h0' : c ≤ c := Nat.le_refl _
      rcases hu2.2 with ⟨rfl, hz⟩ | ⟨g, cap, cur, rfl, _, _, hnc, _⟩
      · simp [Builtin.append_, run_underlying Tryd.underlying39, sizeOf, typeInfo, hi, Builtin.lenOf, Builtin.firstCells]
      · simp [Builtin.append_, run_underlying Tryd.underlying39, sizeOf, typeInfo, hi, Builtin.lenOf, Builtin.firstCells, hnc, storeCells]
  · obtain ⟨b, off, rfl, _, hlt, hc⟩ := h5 (by omega)
    exact main _ rfl (fun j u hj => by rw [Addr.add_lit]; exact hc j u hj)
section
variable {ops : Array Oper} {o : Oper} {a : Act} {Q : Exit → Act → World → Prop} {w : World} {K : Act → World → Prop} {E : Prop}
theorem step_append_rules (hgd : o.guard = none) (s x : Operand) (ho : o.op = .call { callee := .builtin .append, args := #[s, x], argTypes := #[39, 39] })
    {B m c : Nat} {v : Value} {A : Option Addr} {rs qs : List Zq.Rl} (hown : RsOwn B v rs w) (hq : RsE w (· < B) (.slice A m c) qs) (hm : qs.length = m) (hs : a.eval s = v) (hx : a.eval x = .slice A m c) (hb : (rs.length + m) * 64 ≤ 140737488355328) (hbase : B ≤ w.heap.size)
    (hK : ∀ A' c' w', RsOwn B (.slice A' (rs.length + m) c') (rs ++ qs) w' → w.grownBy w' v.ownBlock → K (a.put o.dst (.slice A' (rs.length + m) c')) w') : if Region.wanted o (yielded ops a.tmps) = true then Oper.wp Tryd.prog o a w K Q else E := by
  have hw : Region.wanted o (yielded ops a.tmps) = true := by simp [Region.wanted, hgd]
  rw [if_pos hw]
  obtain ⟨v', w', hrun, h2, h3⟩ := run_append_rules o.type hown hq hm hb hbase
  obtain ⟨A', c', e⟩ := h2.slice
  rw [List.length_append, hm] at e
  subst e
  unfold Oper.wp
  simp [execOp, ho, resolve, invoke, builtin, hs, hx, hrun, Result.andThen]
  exact hK _ _ _ h2 h3
end
end Go.Proofs.YtnbaajdcakjlmaaDoor
