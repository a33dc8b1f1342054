/-
  The result of the document's reading functions: a struct of eight cells in a block of the call's own.
-/
import Derived.Test.YtndkangfnojpoaaGreatDoorJRBox
namespace Go.Proofs.YtndkangfnojpoaaGreatDoor
open Go.RowKit

theorem drop_take_at (S : List Nat) (i n : Nat) : (S.take (i + n)).drop i = (S.drop i).take n := by
  rw [List.drop_take]; congr 1; omega
abbrev zero8 : List Value := [.int .i64 0, .bool false, .int .i64 0, .string ByteArray.empty, nilS, nilS, .int .i64 0, .int .i64 0]
/-- Eight cells are written. -/
abbrev put8 (w : World) (g : Nat) (a b c d e f h i : Value) : World := (((((((w.setCell ⟨g, 0, none⟩ a).setCell ⟨g, 1, none⟩ b).setCell ⟨g, 2, none⟩ c).setCell ⟨g, 3, none⟩ d).setCell ⟨g, 4, none⟩ e).setCell ⟨g, 5, none⟩ f).setCell ⟨g, 6, none⟩ h).setCell ⟨g, 7, none⟩ i
section
variable {w w' : World} {g : Nat} {ty : TypeId} {a b c d e f h i x0 x1 x2 x3 x4 x5 x6 x7 : Value}
theorem Lies.put8 (hl : Lies w g ty [x0, x1, x2, x3, x4, x5, x6, x7]) : Lies (put8 w g a b c d e f h i) g ty [a, b, c, d, e, f, h, i] := by
  have := (((((((hl.put 0 a).put 1 b).put 2 c).put 3 d).put 4 e).put 5 f).put 6 h).put 7 i
  simpa using this
theorem Lies.eight (hl : Lies w g ty [a, b, c, d, e, f, h, i]) : (w.cell? ⟨g, 0, none⟩ = some a ∧ w.cell? ⟨g, 1, none⟩ = some b ∧ w.cell? ⟨g, 2, none⟩ = some c ∧ w.cell? ⟨g, 3, none⟩ = some d ∧ w.cell? ⟨g, 4, none⟩ = some e ∧ w.cell? ⟨g, 5, none⟩ = some f ∧ w.cell? ⟨g, 6, none⟩ = some h ∧ w.cell? ⟨g, 7, none⟩ = some i) ∧
    (w.frozen? ⟨g, 0, none⟩ = false ∧ w.frozen? ⟨g, 1, none⟩ = false ∧ w.frozen? ⟨g, 2, none⟩ = false ∧ w.frozen? ⟨g, 3, none⟩ = false ∧ w.frozen? ⟨g, 4, none⟩ = false ∧ w.frozen? ⟨g, 5, none⟩ = false ∧ w.frozen? ⟨g, 6, none⟩ = false ∧ w.frozen? ⟨g, 7, none⟩ = false) :=
  ⟨⟨hl.cell 0, hl.cell 1, hl.cell 2, hl.cell 3, hl.cell 4, hl.cell 5, hl.cell 6, hl.cell 7⟩, hl.free 0, hl.free 1, hl.free 2, hl.free 3, hl.free 4, hl.free 5, hl.free 6, hl.free 7⟩
theorem put8_far {k : Nat} (hk : k ≠ g) : (Go.Proofs.YtndkangfnojpoaaGreatDoor.put8 w g a b c d e f h i).heap[k]? = w.heap[k]? := by
  rw [Below.heap_setCell _ _ _ _ hk, Below.heap_setCell _ _ _ _ hk, Below.heap_setCell _ _ _ _ hk, Below.heap_setCell _ _ _ _ hk, Below.heap_setCell _ _ _ _ hk, Below.heap_setCell _ _ _ _ hk, Below.heap_setCell _ _ _ _ hk, Below.heap_setCell _ _ _ _ hk]
theorem put8_size : (Go.Proofs.YtndkangfnojpoaaGreatDoor.put8 w g a b c d e f h i).heap.size = w.heap.size := by simp [World.setCell]
theorem below_put8 {w0 : World} {B : Nat} (hb : Below B w0 w) (hg : B ≤ g) : Below B w0 (Go.Proofs.YtndkangfnojpoaaGreatDoor.put8 w g a b c d e f h i) :=
  (((((((hb.setCell hg _).setCell hg _).setCell hg _).setCell hg _).setCell hg _).setCell hg _).setCell hg _).setCell hg _
theorem IsJ.put8 {B : Nat} {v : Value} {x : Jq.J} (hJ : IsJ w (B ≤ ·) v x) (hg : g < B) : IsJ (Go.Proofs.YtndkangfnojpoaaGreatDoor.put8 w g a b c d e f h i) (B ≤ ·) v x :=
  hJ.keep (fun k hk _ => ⟨hk, put8_far (by have : B ≤ k := hk; omega)⟩) (Nat.le_of_eq put8_size.symm)
end
section
variable {S : List Nat} {i G : Nat} {res : Jq.R Jq.J} {w wr : World}
theorem got_err {n : Nat} {k m at_ : Int} {b : Bool} {t : ByteArray} {A1 A2 : Option Addr} {n1 c1 n2 c2 : Nat} {a0 a1 a2 a3 a4 a5 a6 a7 : Value} (h : res = .error n) (hn : 0 < n) (hb : Below w.heap.size w wr) :
    GotEnd S i res w (.returned (gotV k b m t (.slice A1 n1 c1) (.slice A2 n2 c2) at_ n)) (put8 wr w.heap.size a0 a1 a2 a3 a4 a5 a6 a7) := GotEnd.err h hn (below_put8 hb (Nat.le_refl _))
theorem got_ok {x : Jq.J} {r : List Nat} {A1 A2 : Option Addr} {c1 c2 j C : Nat} {a0 a1 a2 a3 a4 a5 a6 a7 : Value} (h : res = .ok (x, r)) (hJ : IsJ wr (C ≤ ·) (jv x.kind x.bool x.int (strOf x.text) (.slice A1 x.names.length c1) (.slice A2 x.list.length c2)) x) (hC : w.heap.size < C) (hr : r = S.drop j) (hj : j ≤ S.length) (hij : i ≤ j) (hb : Below w.heap.size w wr) :
    GotEnd S i res w (.returned (gotV x.kind x.bool x.int (strOf x.text) (.slice A1 x.names.length c1) (.slice A2 x.list.length c2) j 0)) (put8 wr w.heap.size a0 a1 a2 a3 a4 a5 a6 a7) :=
  GotEnd.ok h ((hJ.put8 hC).from (Nat.le_of_lt hC)) hr hj hij (below_put8 hb (Nat.le_refl _))
/-- How a reading function refuses, and with what in its result's block. -/
abbrev errV (n : Int) : Value := gotV 0 false 0 ByteArray.empty nilS nilS 0 n
abbrev putErr (w : World) (g : Nat) (n : Int) : World := put8 w g (.int .i64 0) (.bool false) (.int .i64 0) (.string { data := #[] }) nilS nilS (.int .i64 0) (.int .i64 n)
theorem got_no {n : Nat} {m : Int} (h : res = .error n) (hm : m = (n : Int)) (hn : 0 < n) (hb : Below w.heap.size w wr) : GotEnd S i res w (.returned (errV m)) (putErr wr w.heap.size m) := by
  subst hm; exact got_err h hn hb
theorem put8_lies {ty : TypeId} {x0 x1 x2 x3 x4 x5 x6 x7 a b c d e f h k : Value} (hl : Lies wr G ty [x0, x1, x2, x3, x4, x5, x6, x7]) : Lies (put8 wr G a b c d e f h k) G ty [a, b, c, d, e, f, h, k] := hl.put8
end
end Go.Proofs.YtndkangfnojpoaaGreatDoor
