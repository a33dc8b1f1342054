/-
  A hash in memory; the contracts of firstWords, New, held.
-/
import Derived.Test.YtkfhfokeoieajaaDoorMix
namespace Go.Proofs.YtkfhfokeoieajaaDoor
open Go.RowKit

def u8s (l : List Nat) : List Value := l.map fun (x : Nat) => .int .u8 (x : Int)
def z8 (n : Nat) : List Value := List.replicate n (.int .u8 0)
theorem u8s_length (l : List Nat) : (u8s l).length = l.length := by simp [u8s]
theorem u32s_length (l : List Sha.W) : (u32s l).length = l.length := by simp [u32s]
theorem u8s_append (l k : List Nat) : u8s (l ++ k) = u8s l ++ u8s k := by simp [u8s]
theorem u8s_at (l : List Nat) {j : Nat} (hj : j < l.length) : (u8s l)[j]? = some (.int .u8 (l.getD j 0 : Nat)) := by
  unfold u8s
  rw [List.getElem?_map, List.getD_eq_getElem?_getD, List.getElem?_eq_getElem hj]; rfl

/-- A hash's cells: the words, the bytes that do not fill a group, the length. -/
def hashCells (s : Sha.St) (rest : List Nat) (n : Nat) : List Value := u32s s.list ++ (u8s rest ++ [.int .u64 (n : Int)])

def rest0 : List Nat := List.replicate 64 0

theorem info51 : (Tryd.prog.info? 51).map (·.size) = some 73 := by kernel_rfl

set_option maxHeartbeats 400000 in
theorem firstWords_any (w : World) :
    Calls Tryd.prog 24 #[] w fun e w' => e = .returned (.agg #[.int .u32 1779033703, .int .u32 3144134277, .int .u32 1013904242, .int .u32 2773480762, .int .u32 1359893119, .int .u32 2600822924, .int .u32 528734635, .int .u32 1541459225]) ∧ Below w.heap.size w w' := by
  go_enter Tryd.func24, Tryd.ntmps24
  go_wp2
  exact bodyPost_ret (v := .agg #[.int .u32 1779033703, .int .u32 3144134277, .int .u32 1013904242, .int .u32 2773480762, .int .u32 1359893119, .int .u32 2600822924, .int .u32 528734635, .int .u32 1541459225]) (by simp [results, Tryd.results24, go_sem]) rfl ⟨rfl, (Below.refl _ _).alloc (Nat.le_refl _) _⟩

theorem build_is {P : Program} {ops : Array Oper} {rest : List Oper} {o : Oper} {a : Act} {w : World} {Q : Exit → Act → World → Prop} (hg : o.guard = none) (t : TypeId) (parts : Array (Nat × Operand)) (ho : o.op = .build t parts)
    (cells : Array Value) (hb : P.built t (parts.map fun (i, x) => (i, a.eval x)).toList = some cells)
    (h : wpList P ops Q rest (a.put o.dst (.agg cells)) w) : wpList P ops Q (o :: rest) a w :=
  wpList_build hg t parts ho (by rw [hb]; rfl) (by rw [hb]; exact h)

theorem hash_built : Tryd.prog.built 51 [(0, .agg #[.int .u32 1779033703, .int .u32 3144134277, .int .u32 1013904242, .int .u32 2773480762, .int .u32 1359893119, .int .u32 2600822924, .int .u32 528734635, .int .u32 1541459225])] = some (hashCells Sha.init rest0 0).toArray := by kernel_rfl

set_option maxHeartbeats 400000 in
theorem new_any (w : World) :
    Calls Tryd.prog 15 #[] w fun e w' => ∃ g, e = .returned (.pointer (some ⟨g, 0, none⟩)) ∧ w.heap.size ≤ g ∧ Lies w' g 51 (hashCells Sha.init rest0 0) ∧ Below w.heap.size w w' := by
  go_enter Tryd.func15, Tryd.ntmps15
  go_wp2_with fail
  refine (firstWords_any w).mono ?_
  rintro e w1 ⟨rfl, hb1⟩
  have hB := hb1.size
  go_wp2_with (with_reducible refine build_is rfl 51 #[(0, .tmp 1)] rfl (hashCells Sha.init rest0 0).toArray ?hb ?_)
  case hb => exact hash_built
  go_ret
  exact ⟨_, rfl, hB, Lies.made _ _ _, hb1.alloc hB _⟩

set_option maxHeartbeats 400000 in
theorem held_any (g n : Nat) (w : World) (hn : n < 18446744073709551616) (hc : w.cell? ⟨g, 72, none⟩ = some (.int .u64 (n : Int))) :
    Calls Tryd.prog 25 #[.pointer (some ⟨g, 0, none⟩)] w fun e w' => e = .returned (.int .i64 ((n % 64 : Nat) : Int)) ∧ w = w' := by
  go_enter Tryd.func25, Tryd.ntmps25
  go_wp2
  go_ret
  exact ⟨ret_int (by omega), rfl⟩
end Go.Proofs.YtkfhfokeoieajaaDoor
