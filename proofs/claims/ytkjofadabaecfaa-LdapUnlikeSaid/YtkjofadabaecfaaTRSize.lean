/-
  The document's Size; bytes that were made; append of bytes.
-/
import Derived.Test.YtkjofadabaecfaaTVal
namespace Go.Proofs.Ytkjofadabaecfaa
open Go.RowKit

theorem ArgIs.on {w w' : World} {A : Option Addr} {c : Nat} {q : List Nat} (h : ArgIs w A c q) (hb : Below w.heap.size w w') : ArgIs w' A c q := h.below hb (Nat.le_refl _)
/-- Bytes that were made. -/
def BytesEnd (q : List Nat) (w : World) (e : Ending) (w' : World) : Prop := ∃ A c, e = .returned (.slice A q.length c) ∧ ArgIs w' A c q ∧ Below w.heap.size w w'
theorem BytesEnd.new {q : List Nat} {w : World} {fr : Nat × Nat} {t : TypeId} {cs : Array Value} {n : Nat} (hcs : cs = (u8s q).toArray) (hn : n = q.length) (hq : ∀ x ∈ q, x < 256) (hl : q.length ≤ 9223372036854775807) :
    BytesEnd q w (.returned (.slice (some ⟨w.heap.size, 0, none⟩) n n)) (w.alloc (.cells cs t fr)) := by
  subst hcs hn
  exact ⟨_, _, rfl, arg_new rfl t fr q _ hq (Nat.le_refl _) hl, (Below.refl _ _).alloc (Nat.le_refl _) _⟩
theorem size_lt {n : Nat} (hn : n ≤ 65535) : ∀ x ∈ Bq.size n, x < 256 := by
  intro x hx
  unfold Bq.size at hx
  split at hx
  · simp at hx; omega
  · split at hx
    · simp at hx; omega
    · simp at hx; omega

set_option maxHeartbeats 1000000 in
set_option maxRecDepth 100000 in
theorem refSize_any (n : Nat) (hn : n ≤ 65535) (w : World) :
    Calls Try.prog 39 #[.int .i64 n] w (BytesEnd (Bq.size n) w) := by
  have HL := Lib.hid (size_lt hn)
  by_cases h1 : n < 128
  · have HR : Hid (Bq.size n = [n]) := by unfold Hid Bq.size; rw [if_pos h1]
    have hd : decide ((n : Int) < 128) = true := decide_eq_true (by omega)
    go_enter Try.func39, Try.ntmps39
    go_wp2
    go_ret
    exact BytesEnd.new (by rw [HR.out]; simp [u8s]) (by rw [HR.out]; rfl) HL.out (by rw [HR.out]; simp)
  have hd : decide ((n : Int) < 128) = false := decide_eq_false (by omega)
  by_cases h2 : n < 256
  · have HR : Hid (Bq.size n = [129, n]) := by unfold Hid Bq.size; rw [if_neg h1, if_pos h2]
    have hd2 : decide ((n : Int) < 256) = true := decide_eq_true (by omega)
    go_enter Try.func39, Try.ntmps39
    go_wp2
    go_ret
    exact BytesEnd.new (by rw [HR.out]; simp [u8s]) (by rw [HR.out]; rfl) HL.out (by rw [HR.out]; simp)
  · have HR : Hid (Bq.size n = [130, n / 256, n % 256]) := by unfold Hid Bq.size; rw [if_neg h1, if_neg h2]
    have hd2 : decide ((n : Int) < 256) = false := decide_eq_false (by omega)
    go_enter Try.func39, Try.ntmps39
    go_wp2
    go_ret
    exact BytesEnd.new (by rw [HR.out]; simp [u8s]) (by rw [HR.out]; rfl) HL.out (by rw [HR.out]; simp)

section
variable {ops : Array Oper} {rest : List Oper} {o : Oper} {a : Act} {Q : Exit → Act → World → Prop} {w : World} {K : Act → World → Prop} {E : Prop}
theorem src_at {w : World} {b off : Nat} {q : List Nat} (h : BytesAt w b off q) {i : Nat} {v : Value} (hv : (u8s q)[i]? = some v) : w.cell? ((⟨b, off, none⟩ : Addr).add i) = some v := by
  simp only [u8s, List.getElem?_map, Option.map_eq_some_iff] at hv
  obtain ⟨x, hx, rfl⟩ := hv
  rw [Addr.add_lit]
  exact (h i x hx).2
/-- append of bytes that came in, whatever their address, onto a row of the call's own. -/
theorem run_append_arg {base n : Nat} {v : Value} {xs : List Value} {A : Option Addr} {c : Nat} {q : List Nat} (ty : TypeId) (hown : w.ownsRow base 5 1 v n xs) (hq : ArgIs w A c q)
    (hb : n + q.length ≤ 140737488355328) (hbase : base ≤ w.heap.size) :
    ∃ v' w', (Builtin.append_ #[24, 24] ty #[v, .slice A q.length c]).run Try.prog w = .ok v' w' ∧ w'.ownsRow base 5 1 v' (n + q.length) (xs ++ u8s q) ∧ w.grownBy w' v.ownBlock := by
  obtain ⟨i0, hi, hz0, hz1, hz2⟩ := info_parts infoByte
  have h63 : n + q.length ≤ maxLen := by unfold maxLen; omega
  have main : ∀ a : Addr, A = some a → (∀ j u, (u8s q)[j]? = some u → w.cell? (a.add j) = some u) →
      ∃ v' w', (Builtin.append_ #[24, 24] ty #[v, .slice A q.length c]).run Try.prog w = .ok v' w' ∧ w'.ownsRow base 5 1 v' (n + q.length) (xs ++ u8s q) ∧ w.grownBy w' v.ownBlock := by
    rintro a rfl ha
    obtain ⟨v', w', h1, h2, h3, _⟩ := run_append_own (P := Try.prog) w base 24 ty 5 i0 (.int .u8 0) 1 1 Try.underlying24 hi hz0 hz1 hz2 rfl (by decide) v n xs hown a q.length c (u8s q) (by rw [u8s_length]; omega) ha (u8s_one q) h63 (by omega) hbase
    exact ⟨v', w', h1, h2, h3⟩
  rcases Nat.eq_zero_or_pos q.length with h0 | h0
  · obtain rfl : q = [] := List.eq_nil_of_length_eq_zero h0
    cases A with
    | some a => exact main a rfl (fun j u hj => by simp [u8s] at hj)
    | none =>
      refine ⟨v, w, ?_, by simpa [u8s] using hown, World.grownBy.refl w _⟩
      rcases hown.2 with ⟨rfl, rfl⟩ | ⟨g, cap, cur, rfl, _, _, hnc, _⟩
      · simp [Builtin.append_, run_underlying Try.underlying24, sizeOf, typeInfo, hi, Builtin.lenOf, Builtin.firstCells]
      · simp [Builtin.append_, run_underlying Try.underlying24, sizeOf, typeInfo, hi, Builtin.lenOf, Builtin.firstCells, hnc, storeCells]
  · obtain ⟨b, off, rfl, _, hby⟩ := hq.2.2.2 h0
    exact main _ rfl (fun j u hj => src_at hby hj)
theorem step_append_arg (hgd : o.guard = none) (s x : Operand)
    (ho : o.op = .call { callee := .builtin .append, args := #[s, x], argTypes := #[24, 24] })
    (base : Nat) (v : Value) (n : Nat) (xs : List Value) (A : Option Addr) (c : Nat) (q : List Nat) (hown : w.ownsRow base 5 1 v n xs) (hq : ArgIs w A c q)
    (hs : a.eval s = v) (hx : a.eval x = .slice A q.length c) (hb : n + q.length ≤ 140737488355328) (hbase : base ≤ w.heap.size)
    (hK : ∀ v' w', w'.ownsRow base 5 1 v' (n + q.length) (xs ++ u8s q) → w.grownBy w' v.ownBlock → K (a.put o.dst v') w') : if Region.wanted o (yielded ops a.tmps) = true then Oper.wp Try.prog o a w K Q else E := by
  have hw : Region.wanted o (yielded ops a.tmps) = true := by simp [Region.wanted, hgd]
  rw [if_pos hw]
  obtain ⟨v', w', hrun, h2, h3⟩ := run_append_arg o.type hown hq hb hbase
  unfold Oper.wp
  simp [execOp, ho, resolve, invoke, builtin, hs, hx, hrun, Result.andThen]
  exact hK _ _ h2 h3
theorem append_arg (hgd : o.guard = none) (s x : Operand)
    (ho : o.op = .call { callee := .builtin .append, args := #[s, x], argTypes := #[24, 24] })
    (base : Nat) (v : Value) (n : Nat) (xs : List Value) (A : Option Addr) (c : Nat) (q : List Nat) (hown : w.ownsRow base 5 1 v n xs) (hq : ArgIs w A c q)
    (hs : a.eval s = v) (hx : a.eval x = .slice A q.length c) (hb : n + q.length ≤ 140737488355328) (hbase : base ≤ w.heap.size)
    (h : ∀ v' w', w'.ownsRow base 5 1 v' (n + q.length) (xs ++ u8s q) → w.grownBy w' v.ownBlock → wpList Try.prog ops Q rest (a.put o.dst v') w') : wpList Try.prog ops Q (o :: rest) a w := by
  refine wpList_plain hgd fun K hK => ?_
  obtain ⟨v', w', hrun, h2, h3⟩ := run_append_arg o.type hown hq hb hbase
  unfold Oper.wp
  simp [execOp, ho, resolve, invoke, builtin, hs, hx, hrun, Result.andThen]
  exact hK _ _ (h v' w' h2 h3)
end
theorem own_far {w w' : World} {base : Nat} {e : TypeId} {size n : Nat} {v : Value} {xs : List Value} (h : w.ownsRow base e size v n xs) (hk : ∀ k, v.ownBlock = some k → w'.heap[k]? = w.heap[k]?) : w'.ownsRow base e size v n xs := by
  refine ⟨h.1, ?_⟩
  rcases h.2 with hn | ⟨g, cap, cur, rfl, hb, hg, rest⟩
  · exact .inl hn
  · exact .inr ⟨g, cap, cur, rfl, hb, (hk g rfl).trans hg, rest⟩
/-- A row of the call's own is a slice whose cells are these. -/
theorem own_slIs {w : World} {base : Nat} {e : TypeId} {size : Nat} {v : Value} {n : Nat} {cs : List Value} (h : w.ownsRow base e size v n cs) : SlIs w (base ≤ ·) v n cs := by
  obtain ⟨h1, h2⟩ := h
  rcases h2 with ⟨rfl, rfl⟩ | ⟨g, cap, cur, rfl, hb, hg, hn, hc, hs, ht⟩
  · have : cs = [] := List.eq_nil_of_length_eq_zero (by simpa using h1)
    subst this
    exact SlIs.nil w _
  · unfold maxLen at hc
    refine ⟨_, cap, rfl, hn, by omega, fun _ => ⟨g, 0, rfl, hb, (Array.getElem?_eq_some_iff.1 hg).1, fun j x hj => ?_⟩⟩
    rw [Nat.zero_add, cell_of_row w g j cur _ _ hg, ← Array.getElem?_toList]
    rw [← ht, List.getElem?_take] at hj
    split at hj
    · exact hj
    · cases hj
end Go.Proofs.Ytkjofadabaecfaa
