/-
  The padded end of an input, in plain words; what laying bytes over a row comes to.
-/
import Derived.Test.YtkfhfokeoieajaaDoorHash
namespace Go.Proofs.YtkfhfokeoieajaaDoor
open Go.RowKit

namespace Sha
theorem be4 (n : Nat) : be n 4 = [n / 16777216 % 256, n / 65536 % 256, n / 256 % 256, n % 256] := by
  simp [be, Nat.div_div_eq_div_mul]
theorem be_mod (n : Nat) : be (n % 4294967296) 4 = be n 4 := by
  rw [be4, be4]
  congr 1
  · omega
  · congr 1
    · omega
    · congr 1
      · omega
      · congr 1; omega
theorem be8 (n : Nat) : be n 8 = be (n / 4294967296) 4 ++ be n 4 := by
  simp [be, Nat.div_div_eq_div_mul]
/-- How long the padded end is. -/
def ends (m : Nat) : Nat := if m + 9 ≤ 64 then 64 else 128
/-- The padded end: the rest of the input, whose length is n in all. -/
def tail (r : List Nat) (n : Nat) : List Nat := r ++ [128] ++ List.replicate (ends r.length - r.length - 9) 0 ++ be (8 * n % 18446744073709551616) 8
theorem tail_length (r : List Nat) (n : Nat) (hr : r.length < 64) : (tail r n).length = ends r.length := by
  simp only [tail, List.length_append, List.length_replicate, be_length, List.length_cons, List.length_nil, ends]
  split <;> omega
end Sha

theorem splice_over {α : Type} (A B : List α) (z : α) (n k : Nat) (h : k + B.length ≤ n) :
    splice (A ++ List.replicate n z) (A.length + k) B = A ++ List.replicate k z ++ B ++ List.replicate (n - k - B.length) z := by
  unfold splice
  rw [List.take_length_add_append, Nat.add_assoc, List.drop_length_add_append, List.take_replicate, List.drop_replicate, Nat.min_eq_left (by omega), Nat.sub_sub]
  simp [List.append_assoc]

theorem u8s_splice (L B : List Nat) (k : Nat) : splice (u8s L) k (u8s B) = u8s (splice L k B) := by
  simp [splice, u8s, List.map_take, List.map_drop]
theorem u8s_z8 (n : Nat) : z8 n = u8s (List.replicate n 0) := by simp [z8, u8s]
theorem u8s_one (l : List Nat) : ∀ v ∈ u8s l, v.oneCell' = true := by
  intro v hv
  obtain ⟨x, _, rfl⟩ := List.mem_map.1 hv
  rfl

/-- The end as it is laid, piece by piece, over 128 bytes 0. -/
theorem last_laid (r : List Nat) (n : Nat) (hr : r.length < 64) :
    splice (splice (splice (splice (List.replicate 128 0) 0 r) r.length [128]) (Sha.ends r.length - 8) (Sha.be (8 * n % 18446744073709551616 / 4294967296) 4))
      (Sha.ends r.length - 4) (Sha.be (8 * n % 18446744073709551616 % 4294967296) 4) = Sha.tail r n ++ List.replicate (128 - Sha.ends r.length) 0 := by
  obtain ⟨S, hS, h1, h2⟩ : ∃ S, Sha.ends r.length = S ∧ r.length + 9 ≤ S ∧ S ≤ 128 := by
    refine ⟨_, rfl, ?_, ?_⟩ <;> (unfold Sha.ends; split <;> omega)
  rw [hS]
  have e1 := splice_over ([] : List Nat) r 0 128 0 (by omega)
  simp only [List.nil_append, List.length_nil, Nat.zero_add, List.replicate_zero, Nat.sub_zero] at e1
  rw [e1]
  have e2 := splice_over r [128] 0 (128 - r.length) 0 (by simp; omega)
  simp only [Nat.add_zero, List.replicate_zero, List.append_nil, Nat.sub_zero, List.length_cons, List.length_nil] at e2
  rw [e2]
  have l4 : ∀ x, (Sha.be x 4).length = 4 := fun x => Sha.be_length x 4
  have e3 := splice_over (r ++ [128]) (Sha.be (8 * n % 18446744073709551616 / 4294967296) 4) 0 (128 - r.length - (0 + 1)) (S - 8 - r.length - 1) (by rw [l4]; omega)
  have a3 : (r ++ [128] : List Nat).length = r.length + 1 := by simp
  rw [a3, show r.length + 1 + (S - 8 - r.length - 1) = S - 8 from by omega, l4] at e3
  rw [e3]
  have e4 := splice_over (r ++ [128] ++ List.replicate (S - 8 - r.length - 1) 0 ++ Sha.be (8 * n % 18446744073709551616 / 4294967296) 4) (Sha.be (8 * n % 18446744073709551616 % 4294967296) 4) 0
    (128 - r.length - (0 + 1) - (S - 8 - r.length - 1) - 4) 0 (by rw [l4]; omega)
  have a4 : (r ++ [128] ++ List.replicate (S - 8 - r.length - 1) 0 ++ Sha.be (8 * n % 18446744073709551616 / 4294967296) 4 : List Nat).length + 0 = S - 4 := by
    simp only [List.length_append, List.length_replicate, l4, List.length_cons, List.length_nil]; omega
  rw [a4, l4] at e4
  rw [e4]
  unfold Sha.tail
  rw [hS, Sha.be8, ← Sha.be_mod (8 * n % 18446744073709551616)]
  simp only [List.replicate_zero, List.append_nil, List.append_assoc]
  rw [show S - 8 - r.length - 1 = S - r.length - 9 from by omega, show 128 - r.length - (0 + 1) - (S - r.length - 9) - 4 - 0 - 4 = 128 - S from by omega]

theorem four_at {α : Type} (cs : List α) (k : Nat) (h : k + 4 ≤ cs.length) : ∃ A v0 v1 v2 v3 C, cs = A ++ v0 :: v1 :: v2 :: v3 :: C ∧ A.length = k := by
  refine ⟨cs.take k, cs[k], cs[k + 1], cs[k + 2], cs[k + 3], cs.drop (k + 4), ?_, by simp; omega⟩
  rw [← List.drop_eq_getElem_cons, ← List.drop_eq_getElem_cons, ← List.drop_eq_getElem_cons, ← List.drop_eq_getElem_cons, List.take_append_drop]

/-- putWord into a block that is known whole. -/
theorem putWord_lies (g off n c : Nat) (x : BitVec 32) (w : World) (t : TypeId) (cs : List Value) (hL : Lies w g t cs) (hn : 4 ≤ n) (hf : off + 4 ≤ cs.length) :
    Calls Tryd.prog 28 #[.slice (some ⟨g, off, none⟩) n c, .int .u32 x.toNat] w fun e w' => e = .returned (.tuple #[]) ∧ Lies w' g t (splice cs off (u8s (Sha.be x.toNat 4))) ∧ w.grownBy w' (some g) := by
  have hcell : ∀ j, j < cs.length → w.cell? ⟨g, j, none⟩ = some (cs.getD j undef) := fun j hj => by
    rw [hL.cell, List.getD_eq_getElem?_getD, List.getElem?_eq_getElem hj]; rfl
  refine (putWord_any g off n c x w hn _ _ _ _ (hcell off (by omega)) (hcell (off + 1) (by omega)) (hcell (off + 2) (by omega)) (hcell (off + 3) (by omega)) (hL.free _) (hL.free _) (hL.free _) (hL.free _)).mono ?_
  rintro e w' ⟨rfl, rfl⟩
  refine ⟨rfl, ?_, ?_⟩
  · have h := (((hL.put off (.int .u8 ((x.toNat / 16777216 : Nat) : Int))).put (off + 1) (.int .u8 ((x.toNat / 65536 % 256 : Nat) : Int))).put (off + 2) (.int .u8 ((x.toNat / 256 % 256 : Nat) : Int))).put (off + 3) (.int .u8 ((x.toNat % 256 : Nat) : Int))
    have e : (((cs.set off (.int .u8 ((x.toNat / 16777216 : Nat) : Int))).set (off + 1) (.int .u8 ((x.toNat / 65536 % 256 : Nat) : Int))).set (off + 2) (.int .u8 ((x.toNat / 256 % 256 : Nat) : Int))).set (off + 3) (.int .u8 ((x.toNat % 256 : Nat) : Int))
        = splice cs off (u8s (Sha.be x.toNat 4)) := by
      have hx := x.isLt
      rw [Sha.be4, show x.toNat / 16777216 % 256 = x.toNat / 16777216 from by omega]
      obtain ⟨A, v0, v1, v2, v3, C, rfl, rfl⟩ := four_at cs off hf
      simp [splice, u8s, List.set_append_right]
    rw [e] at h
    exact h
  · exact ⟨rfl, rfl, rfl, by simp [World.setCell], fun i _ hne => by
      have : i ≠ g := fun h => hne (by rw [h])
      rw [Below.heap_setCell _ _ _ _ this, Below.heap_setCell _ _ _ _ this, Below.heap_setCell _ _ _ _ this, Below.heap_setCell _ _ _ _ this]⟩
end Go.Proofs.YtkfhfokeoieajaaDoor
