/-
  The program's appendLength.
-/
import Derived.Test.YtkjofadabaecfaaTPAll
import Derived.Maps.AppendAt
namespace Go.Proofs.Ytkjofadabaecfaa
open Go.RowKit

/-- A row of the caller's own has grown: where it lies, and that no other block was touched. -/
def Grows (w : World) (v v' : Value) (w' : World) : Prop := w.grownBy w' v.ownBlock ∧ ∀ k, v'.ownBlock = some k → v.ownBlock = some k ∨ w.heap.size ≤ k
theorem Grows.trans {w w1 w2 : World} {v v1 v2 : Value} (h : Grows w v v1 w1) (k : Grows w1 v1 v2 w2) : Grows w v v2 w2 := by
  obtain ⟨h1, h2⟩ := h
  obtain ⟨k1, k2⟩ := k
  refine ⟨⟨k1.os.trans h1.os, k1.tape.trans h1.tape, k1.output.trans h1.output, Nat.le_trans h1.size k1.size, fun i hi hne => ?_⟩, fun i e => ?_⟩
  · refine (k1.block i (Nat.lt_of_lt_of_le hi h1.size) (fun e => ?_)).trans (h1.block i hi hne)
    rcases h2 i e.symm with h | h
    · exact hne h.symm
    · omega
  · rcases k2 i e with h | h
    · exact h2 i h
    · exact .inr (Nat.le_trans h1.size h)
theorem Grows.of {w w1 : World} {v : Value} (h : Below w.heap.size w w1) : Grows w v v w1 := ⟨gb_below h, fun _ e => .inl e⟩
theorem Grows.keep {w w' : World} {v v' : Value} (h : Grows w v v' w') : ∀ k, k < w.heap.size → v.ownBlock ≠ some k → w'.heap[k]? = w.heap[k]? := fun k h1 h2 => h.1.block k h1 (fun e => h2 e.symm)
section
variable {ops : Array Oper} {rest : List Oper} {o : Oper} {a : Act} {Q : Exit → Act → World → Prop} {w : World}
/-- append of bytes that came in onto a row of the call's own; where the row lies then. -/
theorem append_arg_at (hgd : o.guard = none) (s x : Operand)
    (ho : o.op = .call { callee := .builtin .append, args := #[s, x], argTypes := #[24, 24] })
    (base : Nat) (v : Value) (n : Nat) (xs : List Value) (A : Option Addr) (c : Nat) (q : List Nat) (hown : w.ownsRow base 5 1 v n xs) (hq : ArgIs w A c q)
    (hs : a.eval s = v) (hx : a.eval x = .slice A q.length c) (hb : n + q.length ≤ 140737488355328) (hbase : base ≤ w.heap.size)
    (h : ∀ v' w', w'.ownsRow base 5 1 v' (n + q.length) (xs ++ u8s q) → Grows w v v' w' → wpList Try.prog ops Q rest (a.put o.dst v') w') : wpList Try.prog ops Q (o :: rest) a w := by
  refine wpList_plain hgd fun K hK => ?_
  have hrun : ∃ v' w', (Builtin.append_ #[24, 24] o.type #[v, .slice A q.length c]).run Try.prog w = .ok v' w' ∧ w'.ownsRow base 5 1 v' (n + q.length) (xs ++ u8s q) ∧ Grows w v v' w' := by
    obtain ⟨i0, hi, hz0, hz1, hz2⟩ := info_parts infoByte
    have h63 : n + q.length ≤ maxLen := by unfold maxLen; omega
    have main : ∀ a : Addr, A = some a → (∀ j u, (u8s q)[j]? = some u → w.cell? (a.add j) = some u) →
        ∃ v' w', (Builtin.append_ #[24, 24] o.type #[v, .slice A q.length c]).run Try.prog w = .ok v' w' ∧ w'.ownsRow base 5 1 v' (n + q.length) (xs ++ u8s q) ∧ Grows w v v' w' := by
      rintro a rfl ha
      obtain ⟨v', w', h1, h2, h3, _, h5⟩ := run_append_own_at (P := Try.prog) (w := w) base 24 o.type 5 i0 (.int .u8 0) 1 1 Try.underlying24 hi hz0 hz1 hz2 rfl (by decide) v n xs hown a q.length c (u8s q) (by rw [u8s_length]; omega) ha (u8s_one q) h63 (by omega) hbase
      refine ⟨v', w', h1, h2, h3, fun k e => ?_⟩
      rcases h5 with h5 | h5
      · exact .inl (h5.symm.trans e)
      · rw [h5] at e; injection e with e; exact .inr (Nat.le_of_eq e)
    rcases Nat.eq_zero_or_pos q.length with h0 | h0
    · obtain rfl : q = [] := List.eq_nil_of_length_eq_zero h0
      cases A with
      | some a => exact main a rfl (fun j u hj => by simp [u8s] at hj)
      | none =>
        refine ⟨v, w, ?_, by simpa [u8s] using hown, World.grownBy.refl w _, fun _ e => .inl e⟩
        rcases hown.2 with ⟨rfl, rfl⟩ | ⟨g, cap, cur, rfl, _, _, hnc, _⟩
        · simp [Builtin.append_, run_underlying Try.underlying24, sizeOf, typeInfo, hi, Builtin.lenOf, Builtin.firstCells]
        · simp [Builtin.append_, run_underlying Try.underlying24, sizeOf, typeInfo, hi, Builtin.lenOf, Builtin.firstCells, hnc, storeCells]
    · obtain ⟨b, off, rfl, _, hby⟩ := hq.2.2.2 h0
      exact main _ rfl (fun j u hj => src_at hby hj)
  obtain ⟨v', w', hrun, h2, h3⟩ := hrun
  unfold Oper.wp
  simp [execOp, ho, resolve, invoke, builtin, hs, hx, hrun, Result.andThen]
  exact hK _ _ (h v' w' h2 h3)
end
/-- Bytes laid behind those of a row of the caller's own. -/
def AppEnd (base : Nat) (v : Value) (q : List Nat) (w : World) (e : Ending) (w' : World) : Prop :=
  ∃ v', e = .returned v' ∧ w'.ownsRow base 5 1 v' q.length (u8s q) ∧ Grows w v v' w'

set_option maxHeartbeats 1000000 in
set_option maxRecDepth 100000 in
theorem appendLength_any (base : Nat) (v : Value) (q : List Nat) (n : Nat) (hn : n ≤ 65535) (hq : q.length ≤ 200000) (w : World) (hb : base ≤ w.heap.size) (h : w.ownsRow base 5 1 v q.length (u8s q)) :
    Calls Try.prog 62 #[v, .int .i64 (n : Int)] w (AppEnd base v (q ++ Bq.size n) w) := by
  obtain ⟨A, c, rfl⟩ := own_slice h
  have HO := Lib.hid h
  clear h
  by_cases h1 : n ≤ 127
  · have HR : Hid (Bq.size n = [n]) := by unfold Hid Bq.size; rw [if_pos (by omega)]
    go_enter Try.func62, Try.ntmps62
    repeat ((fail_if_success (with_reducible show wpList _ _ _ (⟨some 12, _, _, _, _, _⟩ :: _) _ _)); first | go_values | go_skip | go_guarded | go_step | go_upon | go_back | go_simp)
    generalize hW : World.alloc w _ = W1
    have hbA : Below w.heap.size w W1 := by rw [← hW]; exact (Below.refl _ _).alloc (Nat.le_refl _) _
    have hL : ArgIs W1 (some ⟨w.heap.size, 0, none⟩) 1 [n] := by
      have h := arg_new (w := w) rfl 5 (0, 0) [n] 1 (by intro x hx; simp at hx; omega) (Nat.le_refl _) (by decide)
      rw [show (u8s [n]).toArray = #[.int .u8 (n : Int)] from by simp [u8s], hW] at h
      exact h
    have hown := own_below HO.out hbA
    have hs1 : base ≤ W1.heap.size := Nat.le_trans hb hbA.size
    clear hW
    with_reducible refine append_arg_at rfl (.tmp 8) (.tmp 11) ?s0 base _ q.length (u8s q) _ 1 [n] hown hL ?s1 ?s2 ?s3 ?s4 ?_
    case s0 => rfl
    case s1 => rfl
    case s2 => rfl
    case s3 => simp only [List.length_cons, List.length_nil]; omega
    case s4 => exact hs1
    intro v5 w5 hown5 hgr5
    have HE : Hid (AppEnd base (.slice A q.length c) (q ++ Bq.size n) w (.returned v5) w5) := ⟨v5, rfl, by rw [HR.out, List.length_append, u8s_append]; exact hown5, (Grows.of hbA).trans hgr5⟩
    clear hown5 hgr5 hown hL hbA
    go_frame
    go_wp2
    go_ret
    exact HE.out
  by_cases h2 : n ≤ 255
  · have HR : Hid (Bq.size n = [129, n]) := by unfold Hid Bq.size; rw [if_neg (by omega), if_pos (by omega)]
    go_enter Try.func62, Try.ntmps62
    repeat ((fail_if_success (with_reducible show wpList _ _ _ (⟨some 20, _, _, _, _, _⟩ :: _) _ _)); first | go_values | go_skip | go_guarded | go_step | go_upon | go_back | go_simp)
    generalize hW : World.alloc w _ = W1
    have hbA : Below w.heap.size w W1 := by rw [← hW]; exact (Below.refl _ _).alloc (Nat.le_refl _) _
    have hL : ArgIs W1 (some ⟨w.heap.size, 0, none⟩) 2 [129, n] := by
      have h := arg_new (w := w) rfl 5 (0, 0) [129, n] 2 (by intro x hx; simp at hx; omega) (Nat.le_refl _) (by decide)
      rw [show (u8s [129, n]).toArray = #[.int .u8 129, .int .u8 (n : Int)] from by simp [u8s], hW] at h
      exact h
    have hown := own_below HO.out hbA
    have hs1 : base ≤ W1.heap.size := Nat.le_trans hb hbA.size
    clear hW
    with_reducible refine append_arg_at rfl (.tmp 16) (.tmp 19) ?s0 base _ q.length (u8s q) _ 2 [129, n] hown hL ?s1 ?s2 ?s3 ?s4 ?_
    case s0 => rfl
    case s1 => rfl
    case s2 => rfl
    case s3 => simp only [List.length_cons, List.length_nil]; omega
    case s4 => exact hs1
    intro v5 w5 hown5 hgr5
    have HE : Hid (AppEnd base (.slice A q.length c) (q ++ Bq.size n) w (.returned v5) w5) := ⟨v5, rfl, by rw [HR.out, List.length_append, u8s_append]; exact hown5, (Grows.of hbA).trans hgr5⟩
    clear hown5 hgr5 hown hL hbA
    go_frame
    go_wp2
    go_ret
    exact HE.out
  · have HR : Hid (Bq.size n = [130, n / 256, n % 256]) := by unfold Hid Bq.size; rw [if_neg (by omega), if_neg (by omega)]
    go_enter Try.func62, Try.ntmps62
    repeat ((fail_if_success (with_reducible show wpList _ _ _ (⟨some 28, _, _, _, _, _⟩ :: _) _ _)); first | go_values | go_skip | go_guarded | go_step | go_upon | go_back | go_simp)
    generalize hW : World.alloc w _ = W1
    have hbA : Below w.heap.size w W1 := by rw [← hW]; exact (Below.refl _ _).alloc (Nat.le_refl _) _
    have hL : ArgIs W1 (some ⟨w.heap.size, 0, none⟩) 3 [130, n / 256, n % 256] := by
      have h := arg_new (w := w) rfl 5 (0, 0) [130, n / 256, n % 256] 3 (by intro x hx; simp at hx; omega) (Nat.le_refl _) (by decide)
      rw [show (u8s [130, n / 256, n % 256]).toArray = #[.int .u8 130, .int .u8 ((n : Int) / 256), .int .u8 ((n : Int) % 256)] from by simp [u8s], hW] at h
      exact h
    have hown := own_below HO.out hbA
    have hs1 : base ≤ W1.heap.size := Nat.le_trans hb hbA.size
    clear hW
    with_reducible refine append_arg_at rfl (.tmp 21) (.tmp 27) ?s0 base _ q.length (u8s q) _ 3 [130, n / 256, n % 256] hown hL ?s1 ?s2 ?s3 ?s4 ?_
    case s0 => rfl
    case s1 => rfl
    case s2 => rfl
    case s3 => simp only [List.length_cons, List.length_nil]; omega
    case s4 => exact hs1
    intro v5 w5 hown5 hgr5
    have HE : Hid (AppEnd base (.slice A q.length c) (q ++ Bq.size n) w (.returned v5) w5) := ⟨v5, rfl, by rw [HR.out, List.length_append, u8s_append]; exact hown5, (Grows.of hbA).trans hgr5⟩
    clear hown5 hgr5 hown hL hbA
    go_frame
    go_wp2
    go_ret
    exact HE.out
end Go.Proofs.Ytkjofadabaecfaa
