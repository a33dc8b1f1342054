/-
  A reader in memory; take.
-/
import Derived.Test.YtkjofadabaecfaaTPSmall
namespace Go.Proofs.Ytkjofadabaecfaa
open Go.RowKit

theorem cutAt_zero (A : Option Addr) (c : Nat) : cutAt A c 0 = A := by
  unfold cutAt
  split
  · rfl
  · cases A with
    | none => rfl
    | some a => obtain ⟨b, off, s⟩ := a; rfl
section
variable {ops : Array Oper} {rest : List Oper} {o : Oper} {a : Act} {Q : Exit → Act → World → Prop} {w : World}
set_option maxRecDepth 100000 in
theorem slice_to_at (hgd : o.guard = none) (x y : Operand) (ho : o.op = .slice 24 x none (some y) none) (A : Option Addr) (l c n : Nat) (hx : a.eval x = .slice A l c) (hy : a.eval y = .int .i64 n) (hn : n ≤ c)
    (h : wpList Try.prog ops Q rest (a.put o.dst (.slice A n c)) w) : wpList Try.prog ops Q (o :: rest) a w := by
  refine wpList_plain hgd fun K hK => ?_
  have hr := run_slice_h (P := Try.prog) w 24 A l c Try.underlying24 .i64 n (by omega) (by omega)
  have hz := Try.sizeOf5
  have he : Try.prog.elem 24 = 5 := by kernel_rfl
  have hs : sliced A 0 ((n : Int)).toNat c 1 = .slice A n c := by
    have := cutAt_zero A c
    unfold cutAt at this
    simp only [sliced, Int.toNat_natCast, Nat.zero_mul, Nat.sub_zero]
    rw [this]
  rw [he] at hr
  simp only [hz, Result.andThen, hs] at hr
  unfold Oper.wp
  rw [execOp, ho]
  simp [hx, hy, run_sliceAt_slice (P := Try.prog) w 24 _ _ _ _ Try.underlying24, hr, Result.andThen]
  exact hK _ _ h
end
theorem gb_trans {w w1 w2 : World} {r : Option Nat} (h1 : w.grownBy w1 r) (h2 : w1.grownBy w2 r) : w.grownBy w2 r :=
  ⟨h2.os.trans h1.os, h2.tape.trans h1.tape, h2.output.trans h1.output, Nat.le_trans h1.size h2.size, fun k hk hr => (h2.block k (Nat.lt_of_lt_of_le hk h1.size) hr).trans (h1.block k hk hr)⟩
theorem gb_below {w w' : World} {r : Option Nat} (h : Below w.heap.size w w') : w.grownBy w' r := ⟨h.os, h.tape, h.output, h.size, fun k hk _ => h.block k hk⟩
theorem gb_set (w : World) (R i : Nat) (v : Value) : w.grownBy (w.setCell ⟨R, i, none⟩ v) (some R) :=
  ⟨rfl, rfl, rfl, by simp [World.setCell], fun k _ hne => Below.heap_setCell w _ v k (fun e => hne (by rw [e]))⟩
theorem gb_down {w w' : World} {R B : Nat} (h : w.grownBy w' (some R)) (hB : B ≤ w.heap.size) (hR : B ≤ R) : Below B w w' :=
  ⟨h.os, h.tape, h.output, h.size, fun k hk => h.block k (Nat.lt_of_lt_of_le hk hB) (fun e => by injection e with e; omega)⟩

/-- A reader in memory: how many elements the place is inside of, what is still to be read. W: the world in which the reading began. -/
structure Rd (W : World) (R d : Nat) (q : List Nat) (w : World) : Prop where
  below : Below W.heap.size W w
  le : W.heap.size ≤ R
  deep : d ≤ 16
  box : ∃ A c, Lies w R 87 [.int .i64 (d : Int), .slice A q.length c] ∧ ArgIs W A c q
section
variable {W w w' : World} {R d : Nat} {q : List Nat}
theorem Rd.lt (h : Rd W R d q w) : R < w.heap.size := by
  obtain ⟨A, c, hl, _⟩ := h.box
  exact hl.lt
theorem Rd.more (h : Rd W R d q w) (hb : Below w.heap.size w w') : Rd W R d q w' := by
  obtain ⟨A, c, hl, hq⟩ := h.box
  exact ⟨h.below.trans (hb.mono h.below.size), h.le, h.deep, A, c, hl.below hb hl.lt, hq⟩
theorem Rd.bytes (h : Rd W R d q w) : ∀ x ∈ q, x < 256 := by
  obtain ⟨A, c, _, hq⟩ := h.box
  exact hq.2.2.1
end
/-- How take ends. -/
def TakeEnd (W : World) (R d : Nat) (q : List Nat) (n : Nat) (w : World) (e : Ending) (w' : World) : Prop :=
  w.grownBy w' (some R) ∧ ((n ≤ q.length ∧ ∃ A c, e = .returned (.tuple #[.slice A n c, .bool true]) ∧ ArgIs W A c (q.take n) ∧ Rd W R d (q.drop n) w') ∨
    (q.length < n ∧ e = .returned (.tuple #[nilS, .bool false]) ∧ Rd W R d q w'))

set_option maxHeartbeats 1000000 in
set_option maxRecDepth 100000 in
theorem take_any (W : World) (R d : Nat) (q : List Nat) (n : Nat) (w : World) (h : Rd W R d q w) :
    Calls Try.prog 67 #[.pointer (some ⟨R, 0, none⟩), .int .i64 (n : Int)] w (TakeEnd W R d q n w) := by
  obtain ⟨A, c, hl, hq⟩ := h.box
  have z0 := hl.cell 0
  have z1 := hl.cell 1
  have f0 := hl.free 0
  have f1 := hl.free 1
  simp only [List.getElem?_cons_zero, List.getElem?_cons_succ] at z0 z1
  obtain ⟨N, eN⟩ : ∃ N, q.length = N := ⟨_, rfl⟩
  have hNc : N ≤ c := by have := hq.1; omega
  have hc63 : c ≤ 9223372036854775807 := hq.2.1
  rw [eN] at z1
  have HRD := Lib.hid h
  have HL := Lib.hid hl
  have HQ := Lib.hid hq
  have HN := Lib.hid eN
  clear h hl hq eN
  by_cases hn : N < n
  · have hd : decide ((N : Int) < (n : Int)) = true := decide_eq_true (by omega)
    have HE : Hid (TakeEnd W R d q n w (.returned (.tuple #[nilS, .bool false])) w) := ⟨World.grownBy.refl w _, .inr ⟨by rw [HN.out]; exact hn, rfl, HRD.out⟩⟩
    go_enter Try.func67, Try.ntmps67
    go_wp2
    go_ret2
    exact HE.out
  · have hd : decide ((N : Int) < (n : Int)) = false := decide_eq_false (by omega)
    have HE : Hid (TakeEnd W R d q n w (.returned (.tuple #[.slice A n c, .bool true])) (w.setCell ⟨R, 1, none⟩ (.slice (cutAt A c n) (N - n) (c - n)))) := by
      refine ⟨gb_set _ _ _ _, .inl ⟨by rw [HN.out]; omega, A, c, rfl, HQ.out.take n, HRD.out.below.setCell HRD.out.le _, HRD.out.le, HRD.out.deep, cutAt A c n, c - n, ?_, HQ.out.cut n (by rw [HN.out]; omega)⟩⟩
      have := HL.out.put 1 (.slice (cutAt A c n) (N - n) (c - n))
      rw [List.length_drop, HN.out]
      simpa using this
    go_enter Try.func67, Try.ntmps67
    repeat ((fail_if_success (with_reducible show wpList _ _ _ (⟨some 19, _, _, _, _, _⟩ :: _) _ _)); first | go_values | go_skip | go_guarded | go_step | go_upon | go_back | go_simp)
    with_reducible refine slice_to_at rfl (.tmp 17) (.tmp 18) rfl A N c n ?s1 ?s2 ?s3 ?_
    case s1 => rfl
    case s2 => rfl
    case s3 => omega
    go_frame
    repeat ((fail_if_success (with_reducible show wpList _ _ _ (⟨some 26, _, _, _, _, _⟩ :: _) _ _)); first | go_values | go_skip | go_guarded | go_step | go_upon | go_back | go_simp)
    with_reducible refine slice_from_at rfl (.tmp 24) (.tmp 25) rfl A N c n ?s1 ?s2 ?s3 (cutAt A c n) (N - n) (c - n) rfl rfl rfl ?_
    case s1 => rfl
    case s2 => rfl
    case s3 => omega
    generalize cutAt A c n = A' at *
    generalize N - n = N' at *
    generalize c - n = c' at *
    go_frame
    go_wp2
    go_ret2
    exact HE.out
end Go.Proofs.Ytkjofadabaecfaa
