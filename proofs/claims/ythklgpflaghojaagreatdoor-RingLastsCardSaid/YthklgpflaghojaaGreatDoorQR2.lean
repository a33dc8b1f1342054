/-
  QR2: Hash Tail Last HashSum WriteBase Write WriteHeld, side by side.
-/
import Derived.Test.YthklgpflaghojaaGreatDoorQR1
import Derived.Test.YthklgpflaghojaaGreatDoorQM
import Derived.Deep.RegionLaw
import Derived.Deep.RegionWith
import Derived.Deep.MidRow

/-
  A hash in memory; the contracts of firstWords, New, held.
-/
namespace Go.Proofs.YthklgpflaghojaaGreatDoor
open Go.RowKit
def z8 (n : Nat) : List Value := List.replicate n (.int .u8 0)
theorem u32s_length (l : List Sha.W) : (u32s l).length = l.length := by simp [u32s]
/-- A hash's cells: the words, the bytes that do not fill a group, the length. -/
def hashCells (s : Sha.St) (rest : List Nat) (n : Nat) : List Value := u32s s.list ++ (u8s rest ++ [.int .u64 (n : Int)])

def rest0 : List Nat := List.replicate 64 0

set_option maxRecDepth 100000 in
set_option maxHeartbeats 400000 in
theorem firstWords_any (w : World) :
    Calls Tryz.prog 124 #[] w fun e w' => e = .returned (.agg #[.int .u32 1779033703, .int .u32 3144134277, .int .u32 1013904242, .int .u32 2773480762, .int .u32 1359893119, .int .u32 2600822924, .int .u32 528734635, .int .u32 1541459225]) ∧ Below w.heap.size w w' := by
  go_enter Tryz.func124, Tryz.ntmps124
  go_wp2
  exact bodyPost_ret (v := .agg #[.int .u32 1779033703, .int .u32 3144134277, .int .u32 1013904242, .int .u32 2773480762, .int .u32 1359893119, .int .u32 2600822924, .int .u32 528734635, .int .u32 1541459225]) (by simp [results, Tryz.results124, go_sem]) rfl ⟨rfl, (Below.refl _ _).alloc (Nat.le_refl _) _⟩

theorem build_is {P : Program} {ops : Array Oper} {rest : List Oper} {o : Oper} {a : Act} {w : World} {Q : Exit → Act → World → Prop} (hg : o.guard = none) (t : TypeId) (parts : Array (Nat × Operand)) (ho : o.op = .build t parts)
    (cells : Array Value) (hb : P.built t (parts.map fun (i, x) => (i, a.eval x)).toList = some cells)
    (h : wpList P ops Q rest (a.put o.dst (.agg cells)) w) : wpList P ops Q (o :: rest) a w :=
  wpList_build hg t parts ho (by rw [hb]; rfl) (by rw [hb]; exact h)

set_option maxRecDepth 100000 in
theorem hash_built : Tryz.prog.built 149 [(0, .agg #[.int .u32 1779033703, .int .u32 3144134277, .int .u32 1013904242, .int .u32 2773480762, .int .u32 1359893119, .int .u32 2600822924, .int .u32 528734635, .int .u32 1541459225])] = some (hashCells Sha.init rest0 0).toArray := by kernel_rfl

set_option maxHeartbeats 400000 in
set_option maxRecDepth 100000 in
theorem new_any (w : World) :
    Calls Tryz.prog 99 #[] w fun e w' => ∃ g, e = .returned (.pointer (some ⟨g, 0, none⟩)) ∧ w.heap.size ≤ g ∧ Lies w' g 149 (hashCells Sha.init rest0 0) ∧ Below w.heap.size w w' := by
  go_enter Tryz.func99, Tryz.ntmps99
  go_wp2_with fail
  refine (firstWords_any w).mono ?_
  rintro e w1 ⟨rfl, hb1⟩
  have hB := hb1.size
  go_wp2_with (with_reducible refine build_is rfl 149 #[(0, .tmp 1)] rfl (hashCells Sha.init rest0 0).toArray ?hb ?_)
  case hb => exact hash_built
  go_ret
  exact ⟨_, rfl, hB, Lies.made _ _ _, hb1.alloc hB _⟩

set_option maxRecDepth 100000 in
set_option maxHeartbeats 400000 in
theorem held_any (g n : Nat) (w : World) (hn : n < 18446744073709551616) (hc : w.cell? ⟨g, 72, none⟩ = some (.int .u64 (n : Int))) :
    Calls Tryz.prog 125 #[.pointer (some ⟨g, 0, none⟩)] w fun e w' => e = .returned (.int .i64 ((n % 64 : Nat) : Int)) ∧ w = w' := by
  go_enter Tryz.func125, Tryz.ntmps125
  go_wp2
  go_ret
  exact ⟨ret_int (by omega), rfl⟩
end Go.Proofs.YthklgpflaghojaaGreatDoor

/-
  The padded end of an input, in plain words; what laying bytes over a row comes to.
-/
namespace Go.Proofs.YthklgpflaghojaaGreatDoor
open Go.RowKit

namespace Sha
theorem be4 (n : Nat) : be n 4 = [n / 16777216 % 256, n / 65536 % 256, n / 256 % 256, n % 256] := by
  simp [be, Nat.div_div_eq_div_mul]
theorem be_mod (n : Nat) : be (n % 4294967296) 4 = be n 4 := by
  rw [be4, be4]
  congr 1
  · omega
  · congr 1
    · omega
    · congr 1
      · omega
      · congr 1; omega
theorem be8 (n : Nat) : be n 8 = be (n / 4294967296) 4 ++ be n 4 := by
  simp [be, Nat.div_div_eq_div_mul]
/-- How long the padded end is. -/
def ends (m : Nat) : Nat := if m + 9 ≤ 64 then 64 else 128
/-- The padded end: the rest of the input, whose length is n in all. -/
def tail (r : List Nat) (n : Nat) : List Nat := r ++ [128] ++ List.replicate (ends r.length - r.length - 9) 0 ++ be (8 * n % 18446744073709551616) 8
theorem tail_length (r : List Nat) (n : Nat) (hr : r.length < 64) : (tail r n).length = ends r.length := by
  simp only [tail, List.length_append, List.length_replicate, be_length, List.length_cons, List.length_nil, ends]
  split <;> omega
end Sha

theorem splice_over {α : Type} (A B : List α) (z : α) (n k : Nat) (h : k + B.length ≤ n) :
    splice (A ++ List.replicate n z) (A.length + k) B = A ++ List.replicate k z ++ B ++ List.replicate (n - k - B.length) z := by
  unfold splice
  rw [List.take_length_add_append, Nat.add_assoc, List.drop_length_add_append, List.take_replicate, List.drop_replicate, Nat.min_eq_left (by omega), Nat.sub_sub]
  simp [List.append_assoc]

theorem u8s_splice (L B : List Nat) (k : Nat) : splice (u8s L) k (u8s B) = u8s (splice L k B) := by
  simp [splice, u8s, List.map_take, List.map_drop]
theorem u8s_z8 (n : Nat) : z8 n = u8s (List.replicate n 0) := by simp [z8, u8s]
/-- The end as it is laid, piece by piece, over 128 bytes 0. -/
theorem last_laid (r : List Nat) (n : Nat) (hr : r.length < 64) :
    splice (splice (splice (splice (List.replicate 128 0) 0 r) r.length [128]) (Sha.ends r.length - 8) (Sha.be (8 * n % 18446744073709551616 / 4294967296) 4))
      (Sha.ends r.length - 4) (Sha.be (8 * n % 18446744073709551616 % 4294967296) 4) = Sha.tail r n ++ List.replicate (128 - Sha.ends r.length) 0 := by
  obtain ⟨S, hS, h1, h2⟩ : ∃ S, Sha.ends r.length = S ∧ r.length + 9 ≤ S ∧ S ≤ 128 := by
    refine ⟨_, rfl, ?_, ?_⟩ <;> (unfold Sha.ends; split <;> omega)
  rw [hS]
  have e1 := splice_over ([] : List Nat) r 0 128 0 (by omega)
  simp only [List.nil_append, List.length_nil, Nat.zero_add, List.replicate_zero, Nat.sub_zero] at e1
  rw [e1]
  have e2 := splice_over r [128] 0 (128 - r.length) 0 (by simp; omega)
  simp only [Nat.add_zero, List.replicate_zero, List.append_nil, Nat.sub_zero, List.length_cons, List.length_nil] at e2
  rw [e2]
  have l4 : ∀ x, (Sha.be x 4).length = 4 := fun x => Sha.be_length x 4
  have e3 := splice_over (r ++ [128]) (Sha.be (8 * n % 18446744073709551616 / 4294967296) 4) 0 (128 - r.length - (0 + 1)) (S - 8 - r.length - 1) (by rw [l4]; omega)
  have a3 : (r ++ [128] : List Nat).length = r.length + 1 := by simp
  rw [a3, show r.length + 1 + (S - 8 - r.length - 1) = S - 8 from by omega, l4] at e3
  rw [e3]
  have e4 := splice_over (r ++ [128] ++ List.replicate (S - 8 - r.length - 1) 0 ++ Sha.be (8 * n % 18446744073709551616 / 4294967296) 4) (Sha.be (8 * n % 18446744073709551616 % 4294967296) 4) 0
    (128 - r.length - (0 + 1) - (S - 8 - r.length - 1) - 4) 0 (by rw [l4]; omega)
  have a4 : (r ++ [128] ++ List.replicate (S - 8 - r.length - 1) 0 ++ Sha.be (8 * n % 18446744073709551616 / 4294967296) 4 : List Nat).length + 0 = S - 4 := by
    simp only [List.length_append, List.length_replicate, l4, List.length_cons, List.length_nil]; omega
  rw [a4, l4] at e4
  rw [e4]
  unfold Sha.tail
  rw [hS, Sha.be8, ← Sha.be_mod (8 * n % 18446744073709551616)]
  simp only [List.replicate_zero, List.append_nil, List.append_assoc]
  rw [show S - 8 - r.length - 1 = S - r.length - 9 from by omega, show 128 - r.length - (0 + 1) - (S - r.length - 9) - 4 - 0 - 4 = 128 - S from by omega]

theorem four_at {α : Type} (cs : List α) (k : Nat) (h : k + 4 ≤ cs.length) : ∃ A v0 v1 v2 v3 C, cs = A ++ v0 :: v1 :: v2 :: v3 :: C ∧ A.length = k := by
  refine ⟨cs.take k, cs[k], cs[k + 1], cs[k + 2], cs[k + 3], cs.drop (k + 4), ?_, by simp; omega⟩
  rw [← List.drop_eq_getElem_cons, ← List.drop_eq_getElem_cons, ← List.drop_eq_getElem_cons, ← List.drop_eq_getElem_cons, List.take_append_drop]

/-- putWord into a block that is known whole. -/
theorem putWord_lies (g off n c : Nat) (x : BitVec 32) (w : World) (t : TypeId) (cs : List Value) (hL : Lies w g t cs) (hn : 4 ≤ n) (hf : off + 4 ≤ cs.length) :
    Calls Tryz.prog 128 #[.slice (some ⟨g, off, none⟩) n c, .int .u32 x.toNat] w fun e w' => e = .returned (.tuple #[]) ∧ Lies w' g t (splice cs off (u8s (Sha.be x.toNat 4))) ∧ w.grownBy w' (some g) := by
  have hcell : ∀ j, j < cs.length → w.cell? ⟨g, j, none⟩ = some (cs.getD j undef) := fun j hj => by
    rw [hL.cell, List.getD_eq_getElem?_getD, List.getElem?_eq_getElem hj]; rfl
  refine (putWord_any g off n c x w hn _ _ _ _ (hcell off (by omega)) (hcell (off + 1) (by omega)) (hcell (off + 2) (by omega)) (hcell (off + 3) (by omega)) (hL.free _) (hL.free _) (hL.free _) (hL.free _)).mono ?_
  rintro e w' ⟨rfl, rfl⟩
  refine ⟨rfl, ?_, ?_⟩
  · have h := (((hL.put off (.int .u8 ((x.toNat / 16777216 : Nat) : Int))).put (off + 1) (.int .u8 ((x.toNat / 65536 % 256 : Nat) : Int))).put (off + 2) (.int .u8 ((x.toNat / 256 % 256 : Nat) : Int))).put (off + 3) (.int .u8 ((x.toNat % 256 : Nat) : Int))
    have e : (((cs.set off (.int .u8 ((x.toNat / 16777216 : Nat) : Int))).set (off + 1) (.int .u8 ((x.toNat / 65536 % 256 : Nat) : Int))).set (off + 2) (.int .u8 ((x.toNat / 256 % 256 : Nat) : Int))).set (off + 3) (.int .u8 ((x.toNat % 256 : Nat) : Int))
        = splice cs off (u8s (Sha.be x.toNat 4)) := by
      have hx := x.isLt
      rw [Sha.be4, show x.toNat / 16777216 % 256 = x.toNat / 16777216 from by omega]
      obtain ⟨A, v0, v1, v2, v3, C, rfl, rfl⟩ := four_at cs off hf
      simp [splice, u8s, List.set_append_right]
    rw [e] at h
    exact h
  · exact ⟨rfl, rfl, rfl, by simp [World.setCell], fun i _ hne => by
      have : i ≠ g := fun h => hne (by rw [h])
      rw [Below.heap_setCell _ _ _ _ this, Below.heap_setCell _ _ _ _ this, Below.heap_setCell _ _ _ _ this, Below.heap_setCell _ _ _ _ this]⟩
end Go.Proofs.YthklgpflaghojaaGreatDoor

/-
  The contract of lastGroups: the padded end of what a hash was told.
-/
namespace Go.Proofs.YthklgpflaghojaaGreatDoor
open Go.RowKit

theorem hash_len (s : Sha.St) (rest : List Nat) (n : Nat) (hr : rest.length = 64) : (hashCells s rest n).length = 73 := by
  simp [hashCells, u32s_length, u8s_length, Sha.St.list, hr]
theorem hash_count (s : Sha.St) (rest : List Nat) (n : Nat) (hr : rest.length = 64) : (hashCells s rest n)[72]? = some (.int .u64 (n : Int)) := by
  unfold hashCells
  rw [List.getElem?_append_right (by simp [u32s_length, Sha.St.list]), List.getElem?_append_right (by simp [u32s_length, u8s_length, Sha.St.list, hr])]
  simp [u32s_length, u8s_length, Sha.St.list, hr]
theorem hash_rest (s : Sha.St) (rest : List Nat) (n : Nat) {j : Nat} (hj : j < rest.length) : (hashCells s rest n)[8 + j]? = some (.int .u8 (rest.getD j 0 : Nat)) := by
  unfold hashCells
  rw [List.getElem?_append_right (by simp [u32s_length, Sha.St.list]), List.getElem?_append_left (by simp [u32s_length, u8s_length, Sha.St.list, hj])]
  simp only [u32s_length, Sha.St.list, List.length_cons, List.length_nil]
  rw [show 8 + j - (0 + 1 + 1 + 1 + 1 + 1 + 1 + 1 + 1) = j from by omega]
  exact u8s_at rest hj
set_option maxRecDepth 100000 in
theorem info5 : (Tryz.prog.info? 5).map (·.size) = some 1 := by kernel_rfl
set_option maxRecDepth 100000 in
theorem info54 : (Tryz.prog.info? 151).map (·.size) = some 128 := by kernel_rfl

theorem z8_length (n : Nat) : (z8 n).length = n := by simp [z8]
theorem set_splice {α : Type} (L : List α) (k : Nat) (x : α) (h : k < L.length) : L.set k x = splice L k [x] := by
  rw [List.set_eq_take_append_cons_drop, if_pos h]; simp [splice]

theorem putWord_v (g off n c : Nat) (v : Int) (w : World) (t : TypeId) (cs : List Value) (hL : Lies w g t cs) (h0 : 0 ≤ v) (h1 : v < 4294967296) (hn : 4 ≤ n) (hf : off + 4 ≤ cs.length) :
    Calls Tryz.prog 128 #[.slice (some ⟨g, off, none⟩) n c, .int .u32 v] w fun e w' => e = .returned (.tuple #[]) ∧ Lies w' g t (splice cs off (u8s (Sha.be v.toNat 4))) ∧ w.grownBy w' (some g) := by
  obtain ⟨k, rfl⟩ := Int.eq_ofNat_of_zero_le h0
  have h := putWord_lies g off n c (BitVec.ofNat 32 k) w t cs hL hn hf
  rw [BitVec.toNat_ofNat, Nat.mod_eq_of_lt (by omega)] at h
  exact h

theorem results_two {P : Program} {fn : Func} {p u : Tmp} {ty : TypeId} (h : fn.results = #[.cell p ty, .tmp u]) (tmps : Array Value) (w : World) (g : Nat) (t : TypeId) (cs : List Value) (d : TypeDesc)
    (hp : tmps.getD p undef = .pointer (some ⟨g, 0, none⟩)) (hg : Lies w g t cs)
    (hu : P.underlying ty = some d) (hd : (match d with | .struct _ | .array _ _ => true | _ => false) = true) (hi : (P.info? ty).map (·.size) = some cs.length) :
    (results fn tmps).run P w = .ok (.tuple #[.agg cs.toArray, tmps.getD u undef]) w := by
  rw [results_cell_tmp h, hp]
  have := run_loadVar_row (P := P) w g t ty cs.toArray (0, 0) d hg hu hd (by rw [hi]; simp)
  simp [asAddr, this, Result.andThen]

set_option maxRecDepth 100000 in
theorem zero54 (w : World) : (zeroValue 151).run Tryz.prog w = .ok (.agg (z8 128).toArray) w := by kernel_rfl

set_option maxHeartbeats 400000 in
set_option maxRecDepth 100000 in
theorem lastGroups_any (g : Nat) (s : Sha.St) (rest : List Nat) (n : Nat) (w : World) (hL : Lies w g 149 (hashCells s rest n)) (hr : rest.length = 64) (hn : n < 2305843009213693952) :
    Calls Tryz.prog 127 #[.pointer (some ⟨g, 0, none⟩)] w fun e w' =>
      e = .returned (.tuple #[.agg (u8s (Sha.tail (rest.take (n % 64)) n ++ List.replicate (128 - Sha.ends (n % 64)) 0)).toArray, .int .i64 (Sha.ends (n % 64) : Nat)]) ∧ Below w.heap.size w w' := by
  have Hr := Lib.hid hr
  clear hr
  have hg := hL.lt
  have hz := zero54
  go_enter Tryz.func127, Tryz.ntmps127
  go_wp2_with fail
  clear hz
  generalize hw2 : World.alloc (World.alloc _ _) _ = w2
  have h0 : Lies w2 w.heap.size 151 (z8 128) := by rw [← hw2]; exact (Lies.made w _ (z8 128)).alloc _
  have h1 : Lies w2 (w.heap.size + 1) 151 (z8 128) := by rw [← hw2]; exact Lies.new_ (by simp)
  have hL2 : Lies w2 g 149 (hashCells s rest n) := by rw [← hw2]; exact (hL.alloc _).alloc _
  have hb2 : Below w.heap.size w w2 := by rw [← hw2]; exact ((Below.refl _ _).alloc (Nat.le_refl _) _).alloc (by simp) _
  clear hw2
  obtain ⟨m, hm⟩ : ∃ m, n % 64 = m := ⟨_, rfl⟩
  have hm64 : m < 64 := by omega
  have HR : Hid ((u8s (rest.take m)).length = m) := by unfold Hid; rw [u8s_length, List.length_take, Hr.out]; omega
  have hc72 : w2.cell? ⟨g, 72, none⟩ = some (.int .u64 (n : Int)) := by rw [hL2.cell, hash_count _ _ _ Hr.out]
  have i1 : (m : Int) ≤ 64 := by omega
  have i2 : (0 : Int) ≤ (m : Int) := by omega
  have i3 : ¬ ((64 : Int) < (m : Int)) := by omega
  have i4 : m ≤ 64 := by omega
  have HSrc : Hid (∀ j v, (u8s (rest.take m))[j]? = some v → w2.cell? ((⟨g, 8, none⟩ : Addr).add j) = some v) := by
    intro j v hv
    have hj : j < m := by
      have := List.getElem?_eq_some_iff.1 hv
      obtain ⟨hlt, _⟩ := this
      rw [HR.out] at hlt; exact hlt
    have hadd : (⟨g, 8, none⟩ : Addr).add j = ⟨g, 8 + j, none⟩ := by unfold Addr.add; split <;> simp_all
    rw [hadd, hL2.cell, hash_rest s rest n (by rw [Hr.out]; omega)]
    rw [u8s_at _ (by rw [List.length_take, Hr.out]; omega)] at hv
    rw [← hv]
    simp [hj]
  have Hm := Lib.hid hm
  clear hm
  go_region_law (first
    | (refine step_copy_lies rfl (.tmp 8) (.tmp 14) 27 27 rfl 5 Tryz.underlying27 info5 (w.heap.size + 1) 0 (z8 128) 151 (by exact h1) (u8s (rest.take m)) _ _ _ _ _ _ rfl rfl (HR.out.trans (Nat.min_eq_left (by omega)).symm) (fun _ => ⟨rfl, ⟨g, 8, none⟩, rfl, by exact HSrc.out⟩) (by rw [HR.out]; simp [z8]; omega) (u8s_one _) ?_; intro w3 hL3 hg3)
    | (go_simp; go_at_call 125; refine (held_any g n _ (by omega) (by exact hc72)).mono ?_; rintro e w' ⟨rfl, rfl⟩; rw [Hm.out]))
  go_frame
  simp only [HR.out]
  have hL4 : Lies w3 g 149 (hashCells s rest n) := hL2.drew.grown hg3 (by simp; omega)
  have h04 : Lies w3 w.heap.size 151 (z8 128) := h0.drew.grown hg3 (by simp)
  have hb4 : Below w.heap.size w w3 := hb2.drew.grown hg3 hb2.size (by simp)
  clear hL2 h0 hb2 h1 hg3 hc72 HSrc
  rw [u8s_z8, u8s_splice] at hL3
  have hlen : (splice (List.replicate 128 0) 0 (rest.take m)).length = 128 := by
    rw [length_splice _ _ _ (by rw [List.length_take, Hr.out]; simp; omega)]; simp
  obtain ⟨L0, hL0⟩ : ∃ L0, splice (List.replicate 128 0) 0 (rest.take m) = L0 := ⟨_, rfl⟩
  rw [hL0] at hL3 hlen
  have HL0 := Lib.hid hL0
  have Hlen := Lib.hid hlen
  clear hL0 hlen
  have hcm : w3.cell? ⟨w.heap.size + 1, m, none⟩ = some (.int .u8 (L0.getD m 0 : Nat)) := by rw [hL3.cell, u8s_at _ (by rw [Hlen.out]; omega)]
  have hfm := hL3.free m
  go_upto_region 5 with (fail)
  generalize hw5 : World.setCell _ _ _ = w5
  have hL5 : Lies w5 g 149 (hashCells s rest n) := by rw [← hw5]; exact hL4.far (by simp; omega) _
  have h05 : Lies w5 w.heap.size 151 (z8 128) := by rw [← hw5]; exact h04.far (by simp) _
  have hb5 : Below w.heap.size w w5 := by rw [← hw5]; exact hb4.setCell (by simp) _
  have h15 : Lies w5 (w.heap.size + 1) 151 (u8s (splice L0 m [128])) := by
    rw [← hw5, ← u8s_splice]
    have := hL3.put m (.int .u8 128)
    rw [set_splice _ _ _ (by rw [u8s_length, Hlen.out]; omega)] at this
    exact this
  have Hlen1 : Hid ((splice L0 m [128]).length = 128) := by unfold Hid; rw [length_splice _ _ _ (by rw [Hlen.out]; simp; omega), Hlen.out]
  clear hw5 hL4 h04 hb4 hL3 hcm hfm
  obtain ⟨L1, hL1⟩ : ∃ L1, splice L0 m [128] = L1 := ⟨_, rfl⟩
  rw [hL1] at h15 Hlen1
  have HL1 := Lib.hid hL1
  clear hL1
  have hc5 : w5.cell? ⟨g, 72, none⟩ = some (.int .u64 (n : Int)) := by rw [hL5.cell, hash_count _ _ _ Hr.out]
  by_cases hsz : m + 9 ≤ 64
  · have hd : decide ((64 : Int) < (m : Int) + 1 + 8) = false := by simp; omega
    have HS : Hid (Sha.ends m = 64) := by unfold Hid Sha.ends; rw [if_pos hsz]
    go_wp2_with fail
    refine (putWord_v _ _ _ _ _ _ _ _ h15 (by omega) (by omega) (by omega) (by rw [u8s_length, Hlen1.out]; omega)).mono ?_
    rintro e w6 ⟨rfl, h16, hg6⟩
    have h06 := h05.grown hg6 (by simp)
    have hb6 : Below w.heap.size w w6 := hb5.grown hg6 hb5.size (by simp)
    clear hL5 h05 hb5 h15 hg6 hc5
    rw [u8s_splice, show (8 * (n : Int) / 4294967296).toNat = 8 * n % 18446744073709551616 / 4294967296 from by omega] at h16
    have Hlen2 : Hid ((splice L1 56 (Sha.be (8 * n % 18446744073709551616 / 4294967296) 4)).length = 128) := by
      unfold Hid; rw [length_splice _ _ _ (by rw [Sha.be_length, Hlen1.out]; omega), Hlen1.out]
    obtain ⟨L2, hL2⟩ : ∃ L2, splice L1 56 (Sha.be (8 * n % 18446744073709551616 / 4294967296) 4) = L2 := ⟨_, rfl⟩
    rw [hL2] at h16 Hlen2
    have HL2 := Lib.hid hL2
    clear hL2
    go_wp2_with fail
    refine (putWord_v _ _ _ _ _ _ _ _ h16 (by omega) (by omega) (by omega) (by rw [u8s_length, Hlen2.out]; omega)).mono ?_
    rintro e w7 ⟨rfl, h17, hg7⟩
    have h07 := h06.grown hg7 (by simp)
    have hb7 : Below w.heap.size w w7 := hb6.grown hg7 hb6.size (by simp)
    clear h06 hb6 h16 hg7
    rw [u8s_splice, show (8 * (n : Int) % 4294967296).toNat = 8 * n % 18446744073709551616 % 4294967296 from by omega] at h17
    have HF : Hid (splice L2 60 (Sha.be (8 * n % 18446744073709551616 % 4294967296) 4) = Sha.tail (rest.take m) n ++ List.replicate (128 - 64) 0) := by
      have hlm : (rest.take m).length = m := by rw [List.length_take, Hr.out]; omega
      have := last_laid (rest.take m) n (by rw [hlm]; omega)
      rw [hlm, HS.out, HL0.out, HL1.out, HL2.out] at this
      exact this
    rw [HF.out] at h17
    clear HF
    have Hlen3 : Hid ((u8s (Sha.tail (rest.take m) n ++ List.replicate (128 - 64) 0)).length = 128) := by
      have hlm : (rest.take m).length = m := by rw [List.length_take, Hr.out]; omega
      unfold Hid
      rw [u8s_length, List.length_append, Sha.tail_length _ _ (by rw [hlm]; omega), hlm, HS.out]; simp
    obtain ⟨L3, hL3⟩ : ∃ L3, u8s (Sha.tail (rest.take m) n ++ List.replicate (128 - 64) 0) = L3 := ⟨_, rfl⟩
    have Hone : Hid (L3.all (·.oneCell') = true) := by rw [← hL3]; exact List.all_eq_true.2 (u8s_one _)
    rw [hL3] at h17 Hlen3
    have HL3 := Lib.hid hL3
    clear hL3
    go_upto_region 10 with (fail)
    repeat ((fail_if_success (with_reducible show wpList _ _ _ (⟨some 40, _, _, _, _, _⟩ :: _) _ _)); first | go_values | go_skip | go_guarded | go_step | go_upon | go_back)
    with_reducible refine load_lies rfl 151 (.tmp 4) rfl (w.heap.size + 1) 151 L3 _ h17 ?hx Tryz.underlying151 ?hd ?hi ?_
    case hx => rfl
    case hd => rfl
    case hi => (rw [Hlen3.out]; exact info54)
    repeat ((fail_if_success (with_reducible show wpList _ _ _ (⟨none, _, _, _, _, _⟩ :: _) _ _)); first | go_values | go_skip | go_guarded | go_step | go_upon | go_back)
    with_reducible refine store_lies rfl 151 (.tmp 2) (.tmp 40) rfl w.heap.size L3 151 (z8 128) h07 ?sx ?sy ?si ?sl ?s1 ?_
    case sx => rfl
    case sy => rfl
    case si => (rw [z8_length]; exact info54)
    case sl => rw [Hlen3.out, z8_length]
    case s1 => exact Hone.out
    go_wp2
    refine bodyPost_ret (results_two Tryz.results127 _ _ w.heap.size 151 L3 _ rfl h07.row Tryz.underlying151 rfl (by rw [Hlen3.out]; exact info54)) rfl ⟨?_, below_row hb7 (Nat.le_refl _)⟩
    rw [Hm.out, HS.out, HL3.out]; rfl
  · have hd : decide ((64 : Int) < (m : Int) + 1 + 8) = true := by simp; omega
    have HS : Hid (Sha.ends m = 128) := by unfold Hid Sha.ends; rw [if_neg hsz]
    go_wp2_with fail
    refine (putWord_v _ _ _ _ _ _ _ _ h15 (by omega) (by omega) (by omega) (by rw [u8s_length, Hlen1.out]; omega)).mono ?_
    rintro e w6 ⟨rfl, h16, hg6⟩
    have h06 := h05.grown hg6 (by simp)
    have hb6 : Below w.heap.size w w6 := hb5.grown hg6 hb5.size (by simp)
    clear hL5 h05 hb5 h15 hg6 hc5
    rw [u8s_splice, show (8 * (n : Int) / 4294967296).toNat = 8 * n % 18446744073709551616 / 4294967296 from by omega] at h16
    have Hlen2 : Hid ((splice L1 120 (Sha.be (8 * n % 18446744073709551616 / 4294967296) 4)).length = 128) := by
      unfold Hid; rw [length_splice _ _ _ (by rw [Sha.be_length, Hlen1.out]; omega), Hlen1.out]
    obtain ⟨L2, hL2⟩ : ∃ L2, splice L1 120 (Sha.be (8 * n % 18446744073709551616 / 4294967296) 4) = L2 := ⟨_, rfl⟩
    rw [hL2] at h16 Hlen2
    have HL2 := Lib.hid hL2
    clear hL2
    go_wp2_with fail
    refine (putWord_v _ _ _ _ _ _ _ _ h16 (by omega) (by omega) (by omega) (by rw [u8s_length, Hlen2.out]; omega)).mono ?_
    rintro e w7 ⟨rfl, h17, hg7⟩
    have h07 := h06.grown hg7 (by simp)
    have hb7 : Below w.heap.size w w7 := hb6.grown hg7 hb6.size (by simp)
    clear h06 hb6 h16 hg7
    rw [u8s_splice, show (8 * (n : Int) % 4294967296).toNat = 8 * n % 18446744073709551616 % 4294967296 from by omega] at h17
    have HF : Hid (splice L2 124 (Sha.be (8 * n % 18446744073709551616 % 4294967296) 4) = Sha.tail (rest.take m) n ++ List.replicate (128 - 128) 0) := by
      have hlm : (rest.take m).length = m := by rw [List.length_take, Hr.out]; omega
      have := last_laid (rest.take m) n (by rw [hlm]; omega)
      rw [hlm, HS.out, HL0.out, HL1.out, HL2.out] at this
      exact this
    rw [HF.out] at h17
    clear HF
    have Hlen3 : Hid ((u8s (Sha.tail (rest.take m) n ++ List.replicate (128 - 128) 0)).length = 128) := by
      have hlm : (rest.take m).length = m := by rw [List.length_take, Hr.out]; omega
      unfold Hid
      rw [u8s_length, List.length_append, Sha.tail_length _ _ (by rw [hlm]; omega), hlm, HS.out]; simp
    obtain ⟨L3, hL3⟩ : ∃ L3, u8s (Sha.tail (rest.take m) n ++ List.replicate (128 - 128) 0) = L3 := ⟨_, rfl⟩
    have Hone : Hid (L3.all (·.oneCell') = true) := by rw [← hL3]; exact List.all_eq_true.2 (u8s_one _)
    rw [hL3] at h17 Hlen3
    have HL3 := Lib.hid hL3
    clear hL3
    go_upto_region 10 with (fail)
    repeat ((fail_if_success (with_reducible show wpList _ _ _ (⟨some 40, _, _, _, _, _⟩ :: _) _ _)); first | go_values | go_skip | go_guarded | go_step | go_upon | go_back)
    with_reducible refine load_lies rfl 151 (.tmp 4) rfl (w.heap.size + 1) 151 L3 _ h17 ?hx Tryz.underlying151 ?hd ?hi ?_
    case hx => rfl
    case hd => rfl
    case hi => (rw [Hlen3.out]; exact info54)
    repeat ((fail_if_success (with_reducible show wpList _ _ _ (⟨none, _, _, _, _, _⟩ :: _) _ _)); first | go_values | go_skip | go_guarded | go_step | go_upon | go_back)
    with_reducible refine store_lies rfl 151 (.tmp 2) (.tmp 40) rfl w.heap.size L3 151 (z8 128) h07 ?sx ?sy ?si ?sl ?s1 ?_
    case sx => rfl
    case sy => rfl
    case si => (rw [z8_length]; exact info54)
    case sl => rw [Hlen3.out, z8_length]
    case s1 => exact Hone.out
    go_wp2
    refine bodyPost_ret (results_two Tryz.results127 _ _ w.heap.size 151 L3 _ rfl h07.row Tryz.underlying151 rfl (by rw [Hlen3.out]; exact info54)) rfl ⟨?_, below_row hb7 (Nat.le_refl _)⟩
    rw [Hm.out, HS.out, HL3.out]; rfl
end Go.Proofs.YthklgpflaghojaaGreatDoor

/-
  The contract of (*Hash).Sum: the digest of all that a hash was told.
-/
namespace Go.Proofs.YthklgpflaghojaaGreatDoor
open Go.RowKit

namespace Sha
theorem mixAll_append (s : St) (A B : List Nat) (q j : Nat) (hA : A.length = 64 * q) : mixAll s (A ++ B) (q + j) = mixAll (mixAll s A q) B j := by
  have h0 : ∀ k, k ≤ q → mixAll s (A ++ B) k = mixAll s A k := by
    intro k hk
    induction k with
    | zero => rfl
    | succ k ih =>
      rw [mixAll, mixAll, ih (by omega)]
      congr 1
      rw [List.drop_append_of_le_length (by omega), List.take_append_of_le_length (by simp; omega)]
  induction j with
  | zero => exact h0 q (Nat.le_refl _)
  | succ j ih =>
    rw [← Nat.add_assoc, mixAll, ih, mixAll]
    congr 2
    rw [show 64 * (q + j) = A.length + 64 * j from by omega, List.drop_length_add_append]
theorem mixAll_take (s : St) (A B : List Nat) (q : Nat) (hA : A.length = 64 * q) : mixAll s (A ++ B) q = mixAll s A q := by
  exact mixAll_append s A B q 0 hA

theorem zeros_ends (n : Nat) : zeros n = ends (n % 64) - n % 64 - 9 := by
  unfold zeros ends
  split <;> omega

theorem padded_split (p : List Nat) : padded p = p.take (64 * (p.length / 64)) ++ tail (p.drop (64 * (p.length / 64))) p.length := by
  have hl : (p.drop (64 * (p.length / 64))).length = p.length % 64 := by simp; omega
  unfold padded tail
  rw [hl, zeros_ends]
  simp only [← List.append_assoc, List.take_append_drop]

theorem sum_split (p : List Nat) : sum p = (mixAll (mixAll init p (p.length / 64)) (tail (p.drop (64 * (p.length / 64))) p.length) (ends (p.length % 64) / 64)).bytes := by
  have hl : (p.drop (64 * (p.length / 64))).length = p.length % 64 := by simp; omega
  have ht := tail_length (p.drop (64 * (p.length / 64))) p.length (by omega)
  rw [hl] at ht
  have hA : (p.take (64 * (p.length / 64))).length = 64 * (p.length / 64) := by simp; omega
  unfold sum
  rw [padded_split, List.length_append, hA, ht]
  have e : (64 * (p.length / 64) + ends (p.length % 64)) / 64 = p.length / 64 + ends (p.length % 64) / 64 := by omega
  rw [e, mixAll_append _ _ _ _ _ hA]
  congr 2
  have := mixAll_take init (p.take (64 * (p.length / 64))) (p.drop (64 * (p.length / 64))) (p.length / 64) hA
  rw [List.take_append_drop] at this
  exact this.symm
theorem tail_lt (r : List Nat) (n : Nat) (hr : ∀ x ∈ r, x < 256) : ∀ x ∈ tail r n, x < 256 := by
  have hb : ∀ k n, ∀ x ∈ be n k, x < 256 := by
    intro k
    induction k with
    | zero => intro n x hx; simp [be] at hx
    | succ k ih =>
      intro n x hx
      simp only [be, List.mem_append, List.mem_cons, List.not_mem_nil, or_false] at hx
      rcases hx with hx | hx
      · exact ih _ x hx
      · omega
  intro x hx
  simp only [tail, List.mem_append, List.mem_cons, List.not_mem_nil, or_false, List.mem_replicate] at hx
  rcases hx with ((hx | hx) | hx) | hx
  · exact hr x hx
  · omega
  · omega
  · exact hb _ _ x hx
end Sha
/-- mix, its answer written out. -/
theorem mix_lit (s : Sha.St) (b off n c : Nat) (p : List Nat) (w : World) (hT : Tab w) (hn : 64 ≤ n) (hnc : n ≤ c) (hcm : c ≤ 9223372036854775807) (hp : p.length = 64) (hbw : b < w.heap.size)
    (hc : BytesAt w b off p) :
    Calls Tryz.prog 126 #[.agg #[.int .u32 s.a.toNat, .int .u32 s.b.toNat, .int .u32 s.c.toNat, .int .u32 s.d.toNat, .int .u32 s.e.toNat, .int .u32 s.f.toNat, .int .u32 s.g.toNat, .int .u32 s.h.toNat], .slice (some ⟨b, off, none⟩) n c] w
      fun e w' => ∃ a b c d x f g h : Sha.W, e = .returned (.agg #[.int .u32 a.toNat, .int .u32 b.toNat, .int .u32 c.toNat, .int .u32 d.toNat, .int .u32 x.toNat, .int .u32 f.toNat, .int .u32 g.toNat, .int .u32 h.toNat]) ∧
        Hid (Sha.mix s p = ⟨a, b, c, d, x, f, g, h⟩) ∧ Below w.heap.size w w' :=
  (mix_any s b off n c p w hT hn hnc hcm hp hbw hc).mono fun _ _ ⟨he, hb⟩ => ⟨_, _, _, _, _, _, _, _, he, rfl, hb⟩

/-- A world with eight words written from a block's head on. -/
def set8 (w : World) (g : Nat) (ya yb yc yd ye yf yg yh : Sha.W) : World := (((((((w.setCell ⟨g, 0, none⟩ (.int .u32 (ya.toNat : Int))).setCell ⟨g, 1, none⟩ (.int .u32 (yb.toNat : Int))).setCell ⟨g, 2, none⟩ (.int .u32 (yc.toNat : Int))).setCell ⟨g, 3, none⟩ (.int .u32 (yd.toNat : Int))).setCell ⟨g, 4, none⟩ (.int .u32 (ye.toNat : Int))).setCell ⟨g, 5, none⟩ (.int .u32 (yf.toNat : Int))).setCell ⟨g, 6, none⟩ (.int .u32 (yg.toNat : Int))).setCell ⟨g, 7, none⟩ (.int .u32 (yh.toNat : Int))
section
variable {w w0 : World} {g g' : Nat} {t : TypeId} {cs : List Value} {ya yb yc yd ye yf yg yh : Sha.W}
theorem put81 {xa xb xc xd xe xf xg xh : Sha.W} (h : Lies w g t (u32s [xa, xb, xc, xd, xe, xf, xg, xh] ++ cs)) : Lies (set8 w g ya yb yc yd ye yf yg yh) g t (u32s [ya, yb, yc, yd, ye, yf, yg, yh] ++ cs) :=
  (((((((h.put 0 _).put 1 _).put 2 _).put 3 _).put 4 _).put 5 _).put 6 _).put 7 _
theorem far8 (h : Lies w g' t cs) (hne : g' ≠ g) : Lies (set8 w g ya yb yc yd ye yf yg yh) g' t cs :=
  (((((((h.far hne _).far hne _).far hne _).far hne _).far hne _).far hne _).far hne _).far hne _
theorem below8 {B : Nat} (h : Below B w0 w) (hB : B ≤ g) : Below B w0 (set8 w g ya yb yc yd ye yf yg yh) :=
  (((((((h.setCell hB _).setCell hB _).setCell hB _).setCell hB _).setCell hB _).setCell hB _).setCell hB _).setCell hB _
end
set_option maxRecDepth 100000 in
theorem info25 : (Tryz.prog.info? 71).map (·.size) = some 32 := by kernel_rfl
set_option maxRecDepth 100000 in
theorem zero25 (w : World) : (zeroValue 71).run Tryz.prog w = .ok (.agg (z8 32).toArray) w := by kernel_rfl
set_option maxRecDepth 100000 in
theorem zero47 (w : World) : (zeroValue 146).run Tryz.prog w = .ok (.agg (z32 8).toArray) w := by kernel_rfl

/-- A hash that was told these bytes. -/
def HashIs (w : World) (g : Nat) (p : List Nat) : Prop :=
  ∃ rest, Lies w g 149 (hashCells (Sha.mixAll Sha.init p (p.length / 64)) rest p.length) ∧ rest.length = 64 ∧ rest.take (p.length % 64) = p.drop (64 * (p.length / 64)) ∧ ∀ x ∈ p, x < 256

theorem results_one {P : Program} {fn : Func} {p : Tmp} {ty : TypeId} (h : fn.results = #[.cell p ty]) (tmps : Array Value) (w : World) (g : Nat) (t : TypeId) (cs : List Value) (d : TypeDesc)
    (hp : tmps.getD p undef = .pointer (some ⟨g, 0, none⟩)) (hg : Lies w g t cs)
    (hu : P.underlying ty = some d) (hd : (match d with | .struct _ | .array _ _ => true | _ => false) = true) (hi : (P.info? ty).map (·.size) = some cs.length) :
    (results fn tmps).run P w = .ok (.agg cs.toArray) w :=
  results_cell_row h tmps w g t cs.toArray (0, 0) d hp hg hu hd (by rw [hi]; simp)

/-- The first words' bytes, and bytes 0 up to 32. -/
def wordsTo (l : List Sha.W) (j : Nat) : List Value := u8s ((l.take j).flatMap fun x => Sha.be x.toNat 4) ++ List.replicate (32 - 4 * j) (.int .u8 0)
theorem words_len (l : List Sha.W) : (l.flatMap fun x => Sha.be x.toNat 4).length = 4 * l.length := by
  induction l with
  | nil => rfl
  | cons x l ih => rw [List.flatMap_cons, List.length_append, ih, Sha.be_length, List.length_cons]; omega
theorem wordsTo_length (l : List Sha.W) (j : Nat) (hl : l.length = 8) (hj : j ≤ 8) : (wordsTo l j).length = 32 := by
  unfold wordsTo
  rw [List.length_append, u8s_length, words_len, List.length_take, List.length_replicate, hl]; omega
theorem wordsTo_next (l : List Sha.W) (j : Nat) (hl : l.length = 8) (hj : j < 8) : splice (wordsTo l j) (4 * j) (u8s (Sha.be (l.getD j 0).toNat 4)) = wordsTo l (j + 1) := by
  have hlen : (u8s ((l.take j).flatMap fun x => Sha.be x.toNat 4)).length = 4 * j := by rw [u8s_length, words_len, List.length_take, hl]; omega
  have h := splice_over (u8s ((l.take j).flatMap fun x => Sha.be x.toNat 4)) (u8s (Sha.be (l.getD j 0).toNat 4)) (.int .u8 0) (32 - 4 * j) 0 (by rw [u8s_length, Sha.be_length]; omega)
  rw [hlen] at h
  unfold wordsTo
  rw [Nat.add_zero] at h
  rw [h, List.take_succ_eq_append_getElem (by omega), List.flatMap_append, u8s_append, u8s_length, Sha.be_length]
  have e : l.getD j 0 = l[j] := by rw [List.getD_eq_getElem?_getD, List.getElem?_eq_getElem]; rfl
  rw [e, show 32 - 4 * (j + 1) = 32 - 4 * j - 0 - 4 from by omega]
  simp
theorem wordsTo_all (l : List Sha.W) (hl : l.length = 8) : wordsTo l 8 = u8s (l.flatMap fun x => Sha.be x.toNat 4) := by
  unfold wordsTo
  rw [List.take_of_length_le (by omega)]; simp

theorem last_facts (s : Sha.St) (rest : List Nat) (n : Nat) (hr : rest.length = 64) (hlt : ∀ x ∈ rest.take (n % 64), x < 256) :
    ∃ S L, Sha.ends (n % 64) = S ∧ Sha.tail (rest.take (n % 64)) n ++ List.replicate (128 - S) 0 = L ∧ (S = 64 ∨ S = 128) ∧ L.length = 128 ∧ (∀ x ∈ L, x < 256) ∧
      Sha.mixAll s L (S / 64) = Sha.mixAll s (Sha.tail (rest.take (n % 64)) n) (S / 64) := by
  have hm : (rest.take (n % 64)).length = n % 64 := by rw [List.length_take, hr]; omega
  have ht := Sha.tail_length (rest.take (n % 64)) n (by rw [hm]; omega)
  rw [hm] at ht
  have hc : Sha.ends (n % 64) = 64 ∨ Sha.ends (n % 64) = 128 := by unfold Sha.ends; split <;> simp
  refine ⟨_, _, rfl, rfl, hc, ?_, ?_, ?_⟩
  · rw [List.length_append, ht, List.length_replicate]; omega
  · intro x hx
    rcases List.mem_append.1 hx with hx | hx
    · exact Sha.tail_lt _ _ hlt x hx
    · have := List.eq_of_mem_replicate hx; omega
  · exact Sha.mixAll_take _ _ _ _ (by rw [ht]; omega)

set_option maxHeartbeats 400000 in
set_option maxRecDepth 100000 in
theorem hashSum_any (g : Nat) (p : List Nat) (w : World) (hT : Tab w) (hH : HashIs w g p) (hn : p.length < 2305843009213693952) :
    Calls Tryz.prog 101 #[.pointer (some ⟨g, 0, none⟩)] w fun e w' => e = .returned (.agg (u8s (Sha.sum p)).toArray) ∧ Below w.heap.size w w' := by
  obtain ⟨rest, hL, hr, hrt, hp⟩ := hH
  rw [Sha.sum_split, ← hrt]
  have hrt2 : ∀ x ∈ rest.take (p.length % 64), x < 256 := by
    rw [hrt]; intro x hx; exact hp x (List.mem_of_mem_drop hx)
  have Hr := Lib.hid hr
  have Hlt := Lib.hid hrt2
  obtain ⟨n, hpn⟩ : ∃ n, p.length = n := ⟨_, rfl⟩
  rw [hpn] at hn hL Hlt ⊢
  obtain ⟨s, hs⟩ : ∃ s, Sha.mixAll Sha.init p (n / 64) = s := ⟨_, rfl⟩
  rw [hs] at hL ⊢
  clear hr hrt hp hrt2 hpn hs
  have hg := hL.lt
  have hz := zero25
  go_enter Tryz.func101, Tryz.ntmps101
  go_wp2_with fail
  refine (lastGroups_any g s rest n _ (hL.alloc _) Hr.out hn).mono ?_
  rintro e w1 ⟨rfl, hb1⟩
  have hB : w.heap.size + 1 ≤ w1.heap.size := by have := hb1.size; simp at this; omega
  have hL1 : Lies w1 g 149 (hashCells s rest n) := (hL.alloc _).below hb1 (by simp; omega)
  have h01 : Lies w1 w.heap.size 71 (z8 32) := (Lies.made w _ (z8 32)).below hb1 (by simp)
  have hT1 : Tab w1 := Tab.below (Tab.below hT ((Below.refl _ _).alloc (Nat.le_refl _) _) hT.lt) hb1 (Nat.lt_of_lt_of_le hT.lt (by simp))
  have hbel1 : Below w.heap.size w w1 := ((Below.refl _ _).alloc (Nat.le_refl _) _).trans (hb1.mono (by simp))
  clear hb1 hL hT
  obtain ⟨S, L, hS, hLL, hSc, hlen, hlt, hmix⟩ := last_facts s rest n Hr.out Hlt.out
  rw [hS, hLL]
  have HS := Lib.hid hS
  have Hmix := Lib.hid hmix
  have Hlen := Lib.hid hlen
  have Hlt2 := Lib.hid hlt
  clear hS hLL hmix hlen hlt
  have hz2 := zero54
  have hz3 := zero47
  repeat ((fail_if_success (with_reducible show wpList _ _ _ (⟨none, _, _, _, _, _⟩ :: _) _ _)); first | go_values | go_skip | go_guarded | go_step | go_upon | go_back | go_simp)
  with_reducible refine store_lies rfl 151 (.tmp 3) (.tmp 12) rfl w1.heap.size (u8s L) 151 (z8 128) (Lies.new_ rfl) ?sx ?sy ?si ?sl ?s1 ?_
  case sx => rfl
  case sy => rfl
  case si => (rw [z8_length]; exact info54)
  case sl => rw [u8s_length, Hlen.out, z8_length]
  case s1 => exact List.all_eq_true.2 (u8s_one _)
  generalize hw2 : World.setRow _ _ _ = w2
  have hL2 : Lies w2 g 149 (hashCells s rest n) := by rw [← hw2]; exact (hL1.alloc _).farRow (by have := hL1.lt; omega)
  have h02 : Lies w2 w.heap.size 71 (z8 32) := by rw [← hw2]; exact (h01.alloc _).farRow (by omega)
  have h12 : Lies w2 w1.heap.size 151 (u8s L) := by rw [← hw2]; exact Lies.row (cs := z8 128) (Lies.new_ rfl)
  have hT2 : Tab w2 := by rw [← hw2]; exact hT1.below (below_row ((Below.refl _ _).alloc (Nat.le_refl _) _) (Nat.le_refl _)) hT1.lt
  have hbel2 : Below w.heap.size w w2 := by rw [← hw2]; exact below_row (hbel1.alloc (by omega) _) (by omega)
  have hB2 : w1.heap.size + 1 = w2.heap.size := by rw [← hw2]; simp
  clear hw2 hL1 h01 hT1 hbel1 hz hz2
  repeat ((fail_if_success (with_reducible show wpList _ _ _ (⟨some 17, _, _, _, _, _⟩ :: _) _ _)); first | go_values | go_skip | go_guarded | go_step | go_upon | go_back | go_simp)
  with_reducible refine wpList_load_mid rfl 146 (.tmp 16) rfl g 0 ?lx (u32s s.list) _ ?lc Tryz.underlying146 ?ld ?li ?_
  case lx => rfl
  case lc =>
    intro j v hv
    rw [Nat.zero_add, hL2.cell, hashCells, List.getElem?_append_left (by have := (List.getElem?_eq_some_iff.1 hv).1; exact this)]
    exact hv
  case ld => rfl
  case li => exact info47
  repeat ((fail_if_success (with_reducible show wpList _ _ _ (⟨none, _, _, _, _, _⟩ :: _) _ _)); first | go_values | go_skip | go_guarded | go_step | go_upon | go_back | go_simp)
  with_reducible refine store_lies rfl 146 (.tmp 5) (.tmp 17) rfl w2.heap.size (u32s s.list) 146 (z32 8) (Lies.new_ rfl) ?sx ?sy ?si ?sl ?s1 ?_
  case sx => rfl
  case sy => rfl
  case si => exact info47
  case sl => rfl
  case s1 => rfl
  go_frame
  generalize hw3 : World.setRow _ _ _ = w3
  have h03 : Lies w3 w.heap.size 71 (z8 32) := by rw [← hw3]; exact (h02.alloc _).farRow (by have := h02.lt; omega)
  have h13 : Lies w3 w1.heap.size 151 (u8s L) := by rw [← hw3]; exact (h12.alloc _).farRow (by omega)
  have h23 : Lies w3 w2.heap.size 146 (u32s s.list) := by rw [← hw3]; exact Lies.row (cs := z32 8) (Lies.new_ rfl)
  have hT3 : Tab w3 := by rw [← hw3]; exact hT2.below (below_row ((Below.refl _ _).alloc (Nat.le_refl _) _) (Nat.le_refl _)) hT2.lt
  have hbel3 : Below w.heap.size w w3 := by rw [← hw3]; exact below_row (hbel2.alloc (by omega) _) (by omega)
  clear hw3 hL2 h02 h12 hT2 hbel2 hz3
  obtain ⟨q, rfl, hq⟩ : ∃ q, S = 64 * q ∧ (q = 1 ∨ q = 2) := by
    rcases hSc with rfl | rfl
    · exact ⟨1, rfl, .inl rfl⟩
    · exact ⟨2, rfl, .inr rfl⟩
  rw [show ((64 * q : Nat) : Int) = 64 * (q : Int) from by omega]
  have hq1 : 1 ≤ q := by omega
  have hq2 : q ≤ 2 := by omega
  clear hSc hq
  go_wp2_with fail
  go_loopw [6] (fun i wr => ∃ (k : Nat) (xa xb xc xd xe xf xg xh : Sha.W), k ≤ q ∧ i = .int .i64 (64 * (k : Int)) ∧ Sha.mixAll s L k = ⟨xa, xb, xc, xd, xe, xf, xg, xh⟩ ∧
      Lies wr w.heap.size 71 (z8 32) ∧ Lies wr w1.heap.size 151 (u8s L) ∧ Lies wr w2.heap.size 146 (u32s [xa, xb, xc, xd, xe, xf, xg, xh]) ∧ Tab wr ∧ Below w.heap.size w wr)
    (fun i _ => 128 - (intOf i).toNat)
  case atStart => exact ⟨0, s.a, s.b, s.c, s.d, s.e, s.f, s.g, s.h, Nat.zero_le _, rfl, rfl, h03, h13, h23, hT3, hbel3⟩
  case round =>
    clear h03 h13 h23 hT3 hbel3
    obtain ⟨k, xa, xb, xc, xd, xe, xf, xg, xh, hk, rfl, hst, h0r, h1r, h2r, hTr, hbelr⟩ := hrel
    have Hst := Lib.hid hst
    clear hst
    obtain rfl | ⟨rfl, hq2g⟩ | hkq : (k = 0) ∨ (k = 1 ∧ 1 < q) ∨ k = q := by omega
    · rw [show (64 * ((0 : Nat) : Int)) = 0 from rfl]
      have hd : decide ((0 : Int) < 64 * (q : Int)) = true := by simp; omega
      have hby := h1r.bytes Hlt2.out 0 64
      have Hl64 : Hid (((L.drop 0).take 64).length = 64) := by unfold Hid; rw [List.length_take, List.length_drop, Hlen.out]; decide
      have c0 : wr.cell? ⟨w2.heap.size, 0, none⟩ = some (.int .u32 (xa.toNat : Int)) := h2r.cell 0
      have c1 : wr.cell? ⟨w2.heap.size, 1, none⟩ = some (.int .u32 (xb.toNat : Int)) := h2r.cell 1
      have c2 : wr.cell? ⟨w2.heap.size, 2, none⟩ = some (.int .u32 (xc.toNat : Int)) := h2r.cell 2
      have c3 : wr.cell? ⟨w2.heap.size, 3, none⟩ = some (.int .u32 (xd.toNat : Int)) := h2r.cell 3
      have c4 : wr.cell? ⟨w2.heap.size, 4, none⟩ = some (.int .u32 (xe.toNat : Int)) := h2r.cell 4
      have c5 : wr.cell? ⟨w2.heap.size, 5, none⟩ = some (.int .u32 (xf.toNat : Int)) := h2r.cell 5
      have c6 : wr.cell? ⟨w2.heap.size, 6, none⟩ = some (.int .u32 (xg.toNat : Int)) := h2r.cell 6
      have c7 : wr.cell? ⟨w2.heap.size, 7, none⟩ = some (.int .u32 (xh.toNat : Int)) := h2r.cell 7
      go_wp2_with fail
      have hw64 : IntKind.i64.wrap 64 = 64 := by decide
      go_region_with (go_at_call 126; refine (mix_lit ⟨xa, xb, xc, xd, xe, xf, xg, xh⟩ w1.heap.size 0 64 _ ((L.drop 0).take 64) _ (by exact hTr) (by omega) (by omega) (by omega) Hl64.out (by exact h1r.lt) (by exact hby)).mono ?_; rintro e w4 ⟨ya, yb, yc, yd, ye, yf, yg, yh, rfl, Hm, hb1⟩; have hX1 := Lies.below (by exact h2r) hb1 (by exact h2r.lt); have d0 : w4.cell? ⟨w2.heap.size, 0, none⟩ = some (.int .u32 (xa.toNat : Int)) := hX1.cell 0; have f0 := hX1.free 0; have d1 : w4.cell? ⟨w2.heap.size, 1, none⟩ = some (.int .u32 (xb.toNat : Int)) := hX1.cell 1; have f1 := hX1.free 1; have d2 : w4.cell? ⟨w2.heap.size, 2, none⟩ = some (.int .u32 (xc.toNat : Int)) := hX1.cell 2; have f2 := hX1.free 2; have d3 : w4.cell? ⟨w2.heap.size, 3, none⟩ = some (.int .u32 (xd.toNat : Int)) := hX1.cell 3; have f3 := hX1.free 3; have d4 : w4.cell? ⟨w2.heap.size, 4, none⟩ = some (.int .u32 (xe.toNat : Int)) := hX1.cell 4; have f4 := hX1.free 4; have d5 : w4.cell? ⟨w2.heap.size, 5, none⟩ = some (.int .u32 (xf.toNat : Int)) := hX1.cell 5; have f5 := hX1.free 5; have d6 : w4.cell? ⟨w2.heap.size, 6, none⟩ = some (.int .u32 (xg.toNat : Int)) := hX1.cell 6; have f6 := hX1.free 6; have d7 : w4.cell? ⟨w2.heap.size, 7, none⟩ = some (.int .u32 (xh.toNat : Int)) := hX1.cell 7; have f7 := hX1.free 7)
      clear c0 d0 f0 c1 d1 f1 c2 d2 f2 c3 d3 f3 c4 d4 f4 c5 d5 f5 c6 d6 f6 c7 d7 f7 hw64
      have hT4 : Tab w4 := Tab.below (by exact hTr) hb1 (by exact hTr.lt)
      have h04 := Lies.below (by exact h0r) hb1 (by exact h0r.lt)
      have h14 := Lies.below (by exact h1r) hb1 (by exact h1r.lt)
      have hb4 : Below w.heap.size w w4 := hbelr.drew.trans (hb1.mono (by exact hbelr.size))
      clear hb1
      go_wp2
      go_roundw
      case rel =>
        refine ⟨1, ya, yb, yc, yd, ye, yf, yg, yh, by omega, by go_num, ?_, far8 h04 (by have := h0r.lt; omega), far8 h14 (by omega), put81 (cs := []) hX1, ?_, below8 hb4 (by omega)⟩
        · rw [Sha.mixAll, Hst.out]; exact Hm.out
        · exact Tab.below hT4 (below8 (Below.refl w2.heap.size _) (Nat.le_refl _)) (by have := hTr.lt; omega)
      case measure => simp [intOf]
    · rw [show (64 * ((1 : Nat) : Int)) = 64 from rfl]
      have hd : decide ((64 : Int) < 64 * (q : Int)) = true := by simp; omega
      have hby := h1r.bytes Hlt2.out 64 64
      have Hl64 : Hid (((L.drop 64).take 64).length = 64) := by unfold Hid; rw [List.length_take, List.length_drop, Hlen.out]; decide
      have c0 : wr.cell? ⟨w2.heap.size, 0, none⟩ = some (.int .u32 (xa.toNat : Int)) := h2r.cell 0
      have c1 : wr.cell? ⟨w2.heap.size, 1, none⟩ = some (.int .u32 (xb.toNat : Int)) := h2r.cell 1
      have c2 : wr.cell? ⟨w2.heap.size, 2, none⟩ = some (.int .u32 (xc.toNat : Int)) := h2r.cell 2
      have c3 : wr.cell? ⟨w2.heap.size, 3, none⟩ = some (.int .u32 (xd.toNat : Int)) := h2r.cell 3
      have c4 : wr.cell? ⟨w2.heap.size, 4, none⟩ = some (.int .u32 (xe.toNat : Int)) := h2r.cell 4
      have c5 : wr.cell? ⟨w2.heap.size, 5, none⟩ = some (.int .u32 (xf.toNat : Int)) := h2r.cell 5
      have c6 : wr.cell? ⟨w2.heap.size, 6, none⟩ = some (.int .u32 (xg.toNat : Int)) := h2r.cell 6
      have c7 : wr.cell? ⟨w2.heap.size, 7, none⟩ = some (.int .u32 (xh.toNat : Int)) := h2r.cell 7
      go_wp2_with fail
      have hw64 : IntKind.i64.wrap 128 = 128 := by decide
      go_region_with (go_at_call 126; refine (mix_lit ⟨xa, xb, xc, xd, xe, xf, xg, xh⟩ w1.heap.size 64 64 _ ((L.drop 64).take 64) _ (by exact hTr) (by omega) (by omega) (by omega) Hl64.out (by exact h1r.lt) (by exact hby)).mono ?_; rintro e w4 ⟨ya, yb, yc, yd, ye, yf, yg, yh, rfl, Hm, hb1⟩; have hX1 := Lies.below (by exact h2r) hb1 (by exact h2r.lt); have d0 : w4.cell? ⟨w2.heap.size, 0, none⟩ = some (.int .u32 (xa.toNat : Int)) := hX1.cell 0; have f0 := hX1.free 0; have d1 : w4.cell? ⟨w2.heap.size, 1, none⟩ = some (.int .u32 (xb.toNat : Int)) := hX1.cell 1; have f1 := hX1.free 1; have d2 : w4.cell? ⟨w2.heap.size, 2, none⟩ = some (.int .u32 (xc.toNat : Int)) := hX1.cell 2; have f2 := hX1.free 2; have d3 : w4.cell? ⟨w2.heap.size, 3, none⟩ = some (.int .u32 (xd.toNat : Int)) := hX1.cell 3; have f3 := hX1.free 3; have d4 : w4.cell? ⟨w2.heap.size, 4, none⟩ = some (.int .u32 (xe.toNat : Int)) := hX1.cell 4; have f4 := hX1.free 4; have d5 : w4.cell? ⟨w2.heap.size, 5, none⟩ = some (.int .u32 (xf.toNat : Int)) := hX1.cell 5; have f5 := hX1.free 5; have d6 : w4.cell? ⟨w2.heap.size, 6, none⟩ = some (.int .u32 (xg.toNat : Int)) := hX1.cell 6; have f6 := hX1.free 6; have d7 : w4.cell? ⟨w2.heap.size, 7, none⟩ = some (.int .u32 (xh.toNat : Int)) := hX1.cell 7; have f7 := hX1.free 7)
      clear c0 d0 f0 c1 d1 f1 c2 d2 f2 c3 d3 f3 c4 d4 f4 c5 d5 f5 c6 d6 f6 c7 d7 f7 hw64
      have hT4 : Tab w4 := Tab.below (by exact hTr) hb1 (by exact hTr.lt)
      have h04 := Lies.below (by exact h0r) hb1 (by exact h0r.lt)
      have h14 := Lies.below (by exact h1r) hb1 (by exact h1r.lt)
      have hb4 : Below w.heap.size w w4 := hbelr.drew.trans (hb1.mono (by exact hbelr.size))
      clear hb1
      go_wp2
      go_roundw
      case rel =>
        refine ⟨2, ya, yb, yc, yd, ye, yf, yg, yh, by omega, by go_num, ?_, far8 h04 (by have := h0r.lt; omega), far8 h14 (by omega), put81 (cs := []) hX1, ?_, below8 hb4 (by omega)⟩
        · rw [Sha.mixAll, Hst.out]; exact Hm.out
        · exact Tab.below hT4 (below8 (Below.refl w2.heap.size _) (Nat.le_refl _)) (by have := hTr.lt; omega)
      case measure => simp [intOf]
    · subst hkq
      have hd : decide (64 * (k : Int) < 64 * (k : Int)) = false := by simp
      have hz := zero25
      obtain ⟨wo, rfl⟩ : ∃ wo : World, wo = wr := ⟨_, rfl⟩
      have hwo : w2.heap.size < wo.heap.size := h2r.lt
      go_wp2_with fail
      clear hz hd
      go_loopw [29] (fun i w5 => ∃ j : Nat, j ≤ 8 ∧ i = .int .i64 j ∧ Lies w5 wo.heap.size 71 (wordsTo [xa, xb, xc, xd, xe, xf, xg, xh] j) ∧
          Lies w5 w.heap.size 71 (z8 32) ∧ Lies w5 w2.heap.size 146 (u32s [xa, xb, xc, xd, xe, xf, xg, xh]) ∧ Below w.heap.size w w5)
        (fun i _ => 8 - (intOf i).toNat)
      case atStart => exact ⟨0, Nat.zero_le _, rfl, Lies.new_ (cs := z8 32) rfl, h0r.alloc _, h2r.alloc _, hbelr.alloc hbelr.size _⟩
      case round =>
        obtain ⟨j, hj, rfl, hD, h05, h25, hb5⟩ := hrel
        clear h0r h1r h2r hTr hbelr
        by_cases hlt : j < 8
        · have hd : decide ((j : Int) < 8) = true := by simp; omega
          obtain ⟨x, hx⟩ : ∃ x, [xa, xb, xc, xd, xe, xf, xg, xh].getD j 0 = x := ⟨_, rfl⟩
          have Hx := Lib.hid hx
          have hcx : wr.cell? ⟨w2.heap.size, j, none⟩ = some (.int .u32 (x.toNat : Int)) := by rw [h25.cell, u32s_at _ (by simpa using hlt), hx]
          clear hx
          have m1 : IntKind.i64.wrap (4 * (j : Int)) = 4 * (j : Int) := IntWalk.i64_in _ (by omega)
          have m2 : (0 : Int) ≤ 4 * (j : Int) := by omega
          have m3 : 4 * (j : Int) ≤ 32 := by omega
          have m4 : (4 * (j : Int)).toNat = 4 * j := by omega
          have m5 : ¬ (32 = 4 * j) := by omega
          have m6 : (j : Int) < 8 := by omega
          go_wp2_with fail
          go_region_with (go_at_call 128; refine (putWord_lies wo.heap.size (4 * j) (32 - 4 * j) (32 - 4 * j) x _ 71 _ (by exact hD) (by omega) (by rw [wordsTo_length _ _ rfl (by omega)]; omega)).mono ?_; rintro e w6 ⟨rfl, hD6, hg6⟩)
          have hN : Lies w6 wo.heap.size 71 (wordsTo [xa, xb, xc, xd, xe, xf, xg, xh] (j + 1)) := by
            have := wordsTo_next [xa, xb, xc, xd, xe, xf, xg, xh] j rfl hlt
            rw [Hx.out] at this
            rw [this] at hD6
            exact hD6
          have h06 := Lies.grown (by exact h05) hg6 (by simp; omega)
          have h26 := Lies.grown (by exact h25) hg6 (by simp; omega)
          have hb6 : Below w.heap.size w w6 := hb5.drew.grown hg6 (by exact hb5.size) (by simp; omega)
          clear hD6 hg6 hcx m1 m2 m3 m4 m5 m6 hD h05 h25 hb5
          go_wp2
          go_roundw
          case rel => exact ⟨j + 1, by omega, by go_num, hN, h06, h26, hb6⟩
          case measure => simp [intOf]; omega
        · obtain rfl : j = 8 := by omega
          rw [wordsTo_all _ rfl] at hD
          have Hl32 : Hid ((u8s ([xa, xb, xc, xd, xe, xf, xg, xh].flatMap fun x => Sha.be x.toNat 4)).length = 32) := by unfold Hid; rw [u8s_length, words_len]; rfl
          have Hone : Hid ((u8s ([xa, xb, xc, xd, xe, xf, xg, xh].flatMap fun x => Sha.be x.toNat 4)).all (·.oneCell') = true) := List.all_eq_true.2 (u8s_one _)
          obtain ⟨D, hDe⟩ : ∃ D, u8s ([xa, xb, xc, xd, xe, xf, xg, xh].flatMap fun x => Sha.be x.toNat 4) = D := ⟨_, rfl⟩
          rw [hDe] at hD Hl32 Hone
          have HDe := Lib.hid hDe
          clear hDe
          have hd : decide (((8 : Nat) : Int) < 8) = false := by decide
          go_upto_region 13 with (fail)
          repeat ((fail_if_success (with_reducible show wpList _ _ _ (⟨some 40, _, _, _, _, _⟩ :: _) _ _)); first | go_values | go_skip | go_guarded | go_step | go_upon | go_back | go_simp)
          with_reducible refine load_lies rfl 71 (.tmp 7) rfl wo.heap.size 71 _ _ hD ?hx Tryz.underlying71 ?hd ?hi ?_
          case hx => rfl
          case hd => rfl
          case hi => (rw [Hl32.out]; exact info25)
          repeat ((fail_if_success (with_reducible show wpList _ _ _ (⟨none, _, _, _, _, _⟩ :: _) _ _)); first | go_values | go_skip | go_guarded | go_step | go_upon | go_back | go_simp)
          with_reducible refine store_lies rfl 71 (.tmp 2) (.tmp 40) rfl w.heap.size D 71 (z8 32) h05 ?sx ?sy ?si ?sl ?s1 ?_
          case sx => rfl
          case sy => rfl
          case si => (rw [z8_length]; exact info25)
          case sl => rw [Hl32.out, z8_length]
          case s1 => exact Hone.out
          go_wp2
          refine bodyPost_ret (results_one Tryz.results101 _ _ w.heap.size 71 D _ rfl h05.row Tryz.underlying71 rfl (by rw [Hl32.out]; exact info25)) rfl ⟨?_, below_row hb5 (Nat.le_refl _)⟩
          have e : 64 * k / 64 = k := by omega
          rw [HS.out, ← Hmix.out, e, Hst.out, ← HDe.out]; rfl
end Go.Proofs.YthklgpflaghojaaGreatDoor

/-
  Plain facts for (*Hash).Write.
-/
namespace Go.Proofs.YthklgpflaghojaaGreatDoor
open Go.RowKit

/-- A slice of bytes that reads as these, in a block other than g. -/
def SliceIs (w : World) (g : Nat) (A : Option Addr) (c : Nat) (q : List Nat) : Prop :=
  q.length ≤ c ∧ c ≤ 9223372036854775807 ∧ (∀ x ∈ q, x < 256) ∧ (0 < q.length → ∃ b off, A = some ⟨b, off, none⟩ ∧ b ≠ g ∧ b < w.heap.size ∧ BytesAt w b off q)

theorem SliceIs.grown {w w' : World} {g : Nat} {A : Option Addr} {c : Nat} {q : List Nat} (h : SliceIs w g A c q) (hg : w.grownBy w' (some g)) : SliceIs w' g A c q := by
  refine ⟨h.1, h.2.1, h.2.2.1, fun hq => ?_⟩
  obtain ⟨b, off, e, hne, hb, hby⟩ := h.2.2.2 hq
  exact ⟨b, off, e, hne, Nat.lt_of_lt_of_le hb hg.size, hby.keep fun a ha => World.cell?_of_block (hg.block a.block (by omega) (by rw [ha]; simp; exact hne))⟩
theorem SliceIs.drew {w : World} {g : Nat} {A : Option Addr} {c : Nat} {q : List Nat} (h : SliceIs w g A c q) : SliceIs w.drew g A c q := h
theorem SliceIs.at_ {w : World} {g : Nat} {b off c : Nat} {q : List Nat} (h : SliceIs w g (some ⟨b, off, none⟩) c q) (k : Nat) : SliceIs w g (some ⟨b, off + k, none⟩) (c - k) (q.drop k) := by
  refine ⟨by have := h.1; simp; omega, by have := h.2.1; omega, fun x hx => h.2.2.1 x (List.mem_of_mem_drop hx), fun hq => ?_⟩
  obtain ⟨b', off', e, hne, hb, hby⟩ := h.2.2.2 (by simp at hq; omega)
  injection e with e
  injection e with e1 e2
  subst e1; subst e2
  exact ⟨b, off + k, rfl, hne, hb, hby.cut k⟩
theorem SliceIs.none_ {w : World} {g : Nat} {A' : Option Addr} {c' : Nat} (hc : c' ≤ 9223372036854775807) : SliceIs w g A' c' [] :=
  ⟨Nat.zero_le _, hc, (fun x hx => by cases hx), (fun h => by cases h)⟩

theorem hash_setlen (s : Sha.St) (rest : List Nat) (n v : Nat) (hr : rest.length = 64) : (hashCells s rest n).set 72 (.int .u64 (v : Int)) = hashCells s rest v := by
  unfold hashCells
  rw [List.set_append_right _ _ (by simp [u32s_length, Sha.St.list]), List.set_append_right _ _ (by simp [u32s_length, u8s_length, Sha.St.list, hr])]
  simp [u32s_length, u8s_length, Sha.St.list, hr]
theorem hash_copy (s : Sha.St) (rest x : List Nat) (n m : Nat) (hr : rest.length = 64) (hm : m + x.length ≤ 64) : splice (hashCells s rest n) (8 + m) (u8s x) = hashCells s (splice rest m x) n := by
  have h8 : (u32s s.list).length = 8 := rfl
  unfold hashCells
  rw [← u8s_splice]
  unfold splice
  rw [← h8, List.take_length_add_append, Nat.add_assoc, List.drop_length_add_append, List.take_append_of_le_length (by rw [u8s_length]; omega), List.drop_append_of_le_length (by rw [u8s_length, u8s_length]; omega)]
  simp [List.append_assoc]

namespace Sha
theorem mixAll_cong (s : St) (p r : List Nat) (n : Nat) (h : p.take (64 * n) = r.take (64 * n)) : mixAll s p n = mixAll s r n := by
  induction n with
  | zero => rfl
  | succ n ih =>
    have h1 : p.take (64 * n) = r.take (64 * n) := by
      have := congrArg (List.take (64 * n)) h
      simpa [List.take_take, show min (64 * n) (64 * (n + 1)) = 64 * n from by omega] using this
    have h2 : (p.drop (64 * n)).take 64 = (r.drop (64 * n)).take 64 := by
      have := congrArg (List.drop (64 * n)) h
      rw [List.drop_take, List.drop_take, show 64 * (n + 1) - 64 * n = 64 from by omega] at this
      exact this
    rw [mixAll, mixAll, ih h1, h2]
end Sha
end Go.Proofs.YthklgpflaghojaaGreatDoor

/-
  The contract of (*Hash).Write: a hash is told more.
-/
namespace Go.Proofs.YthklgpflaghojaaGreatDoor
open Go.RowKit
theorem grown_set {w w' : World} {g : Nat} (h : w.grownBy w' (some g)) (i : Nat) (u : Value) : w.grownBy (w'.setCell ⟨g, i, none⟩ u) (some g) :=
  ⟨h.os, h.tape, h.output, by simpa [World.setCell] using h.size, fun k hk hne => (Below.heap_setCell w' _ u k (by rintro rfl; exact hne rfl)).trans (h.block k hk hne)⟩
theorem grown8 {w w' : World} {g : Nat} {ya yb yc yd ye yf yg yh : Sha.W} (h : w.grownBy w' (some g)) : w.grownBy (set8 w' g ya yb yc yd ye yf yg yh) (some g) :=
  grown_set (grown_set (grown_set (grown_set (grown_set (grown_set (grown_set (grown_set h _ _) _ _) _ _) _ _) _ _) _ _) _ _) _ _
set_option maxHeartbeats 400000 in
set_option maxRecDepth 100000 in
theorem write_zero (g : Nat) (p q : List Nat) (A : Option Addr) (c : Nat) (w : World) (hT : Tab w) (hH : HashIs w g p) (hq : SliceIs w g A c q) (hg0 : 1 < g) (hn : p.length + q.length < 2305843009213693952) (hm0 : p.length % 64 = 0) :
    Calls Tryz.prog 100 #[.pointer (some ⟨g, 0, none⟩), .slice A q.length c] w fun e w' => e = .returned (.tuple #[]) ∧ HashIs w' g (p ++ q) ∧ w.grownBy w' (some g) := by
  obtain ⟨rest, hL, hr, hrt, hp⟩ := hH
  have Hr := Lib.hid hr
  have Hp := Lib.hid hp
  have hg := hL.lt
  have hqc := hq.1
  have hcm := hq.2.1
  obtain ⟨n, hpn⟩ : ∃ n, p.length = n := ⟨_, rfl⟩
  obtain ⟨l, hql⟩ : ∃ l, q.length = l := ⟨_, rfl⟩
  have Hpn := Lib.hid hpn
  have Hql := Lib.hid hql
  rw [hpn] at hn hL hm0
  rw [hql] at hn hqc ⊢
  obtain ⟨T, hTe⟩ : ∃ T, p ++ q = T := ⟨_, rfl⟩
  have HTe := Lib.hid hTe
  have HT : Hid (T.length = n + l) := by unfold Hid; rw [← hTe, List.length_append, hpn, hql]
  have HTp : Hid (∀ x ∈ p ++ q, x < 256) := fun x hx => by
    rcases List.mem_append.1 hx with hx | hx
    · exact hp x hx
    · exact hq.2.2.1 x hx
  have HT0 : Hid (Sha.mixAll Sha.init p (n / 64) = Sha.mixAll Sha.init T (n / 64)) :=
    Sha.mixAll_cong _ _ _ _ (by rw [← hTe, List.take_append_of_le_length (by omega)])
  have HTz : Hid (T.drop (64 * (n / 64)) = q) := by
    unfold Hid; rw [show 64 * (n / 64) = p.length from by omega, ← hTe]; simp
  clear hr hrt hp hpn hql hTe
  have hc72 : w.cell? ⟨g, 72, none⟩ = some (.int .u64 (n : Int)) := by rw [hL.cell, hash_count _ _ _ Hr.out]
  have hf72 := hL.free 72
  have Hm0 := Lib.hid hm0
  clear hm0
  go_enter Tryz.func100, Tryz.ntmps100
  go_wp2_with fail
  refine (held_any g n _ (by omega) hc72).mono ?_
  rintro e w' ⟨rfl, rfl⟩
  rw [Hm0.out]
  go_wp2_with fail
  generalize hw5 : World.setCell _ _ _ = w5
  have hLw : Lies w5 g 149 (hashCells (Sha.mixAll Sha.init T (n / 64)) rest (n + l)) := by
    rw [← hw5, ← HT0.out, ← hash_setlen _ _ n (n + l) Hr.out]; exact hL.put 72 _
  have hgw : w.grownBy w5 (some g) := by rw [← hw5]; exact grown_set (World.grownBy.refl w _) _ _
  have hTw : Tab w5 := fun t ht => (World.cell?_of_block (hgw.block _ hT.lt (by simp; omega))).trans (hT t ht)
  clear hw5 hL hc72 hf72
  go_loopw [1] (fun v wr => ∃ (j d c' : Nat) (A' : Option Addr) (rest : List Nat) (xa xb xc xd xe xf xg xh : Sha.W), v = .slice A' d c' ∧ d + 64 * j = n + l ∧ SliceIs wr g A' c' (T.drop (64 * j)) ∧
      Sha.mixAll Sha.init T j = ⟨xa, xb, xc, xd, xe, xf, xg, xh⟩ ∧ rest.length = 64 ∧ Lies wr g 149 (hashCells ⟨xa, xb, xc, xd, xe, xf, xg, xh⟩ rest (n + l)) ∧ Tab wr ∧ w.grownBy wr (some g))
    (fun v _ => lenV v)
  case atStart =>
    exact ⟨n / 64, l, c, A, rest, _, _, _, _, _, _, _, _, rfl, by have := Hm0.out; omega, (by rw [HTz.out]; exact hq.grown hgw), rfl, Hr.out, hLw, hTw, hgw⟩
  case round =>
    obtain ⟨j, d, c', A', rest', xa, xb, xc, xd, xe, xf, xg, xh, rfl, hdj, hS, hst, hr', hLr, hTr, hgr⟩ := hrel
    have Hst := Lib.hid hst
    have Hr' := Lib.hid hr'
    have Hdj := Lib.hid hdj
    have hTd : (T.drop (64 * j)).length = d := by rw [List.length_drop, HT.out]; omega
    have HTd := Lib.hid hTd
    have hdc : d ≤ c' := by have := hS.1; rw [hTd] at this; exact this
    have hcm' := hS.2.1
    have hjn : 64 * j ≤ n + l := by omega
    clear hst hr' hTd
    by_cases hlt : 64 ≤ d
    · have hd : decide ((64 : Int) ≤ (d : Int)) = true := by simp; omega
      obtain ⟨b, off, rfl, hbg, hbw, hby⟩ := hS.2.2.2 (by rw [HTd.out]; omega)
      have hby64 := hby.take 64
      have Hl64 : Hid (((T.drop (64 * j)).take 64).length = 64) := by unfold Hid; rw [List.length_take, HTd.out]; omega
      have hc64 : (64 : Int) ≤ (c' : Int) := by omega
      have c0 : wr.cell? ⟨g, 0, none⟩ = some (.int .u32 (xa.toNat : Int)) := hLr.cell 0
      have c1 : wr.cell? ⟨g, 1, none⟩ = some (.int .u32 (xb.toNat : Int)) := hLr.cell 1
      have c2 : wr.cell? ⟨g, 2, none⟩ = some (.int .u32 (xc.toNat : Int)) := hLr.cell 2
      have c3 : wr.cell? ⟨g, 3, none⟩ = some (.int .u32 (xd.toNat : Int)) := hLr.cell 3
      have c4 : wr.cell? ⟨g, 4, none⟩ = some (.int .u32 (xe.toNat : Int)) := hLr.cell 4
      have c5 : wr.cell? ⟨g, 5, none⟩ = some (.int .u32 (xf.toNat : Int)) := hLr.cell 5
      have c6 : wr.cell? ⟨g, 6, none⟩ = some (.int .u32 (xg.toNat : Int)) := hLr.cell 6
      have c7 : wr.cell? ⟨g, 7, none⟩ = some (.int .u32 (xh.toNat : Int)) := hLr.cell 7
      clear hdj
      go_wp2_with fail
      go_region_with (go_at_call 126; refine (mix_lit ⟨xa, xb, xc, xd, xe, xf, xg, xh⟩ b off 64 _ ((T.drop (64 * j)).take 64) _ (by exact hTr) (by omega) (by omega) (by omega) Hl64.out (by exact hbw) (by exact hby64)).mono ?_; rintro e w4 ⟨ya, yb, yc, yd, ye, yf, yg, yh, rfl, Hm, hb1⟩; have hX1 := Lies.below (by exact hLr) hb1 (by exact hLr.lt); have d0 : w4.cell? ⟨g, 0, none⟩ = some (.int .u32 (xa.toNat : Int)) := hX1.cell 0; have f0 := hX1.free 0; have d1 : w4.cell? ⟨g, 1, none⟩ = some (.int .u32 (xb.toNat : Int)) := hX1.cell 1; have f1 := hX1.free 1; have d2 : w4.cell? ⟨g, 2, none⟩ = some (.int .u32 (xc.toNat : Int)) := hX1.cell 2; have f2 := hX1.free 2; have d3 : w4.cell? ⟨g, 3, none⟩ = some (.int .u32 (xd.toNat : Int)) := hX1.cell 3; have f3 := hX1.free 3; have d4 : w4.cell? ⟨g, 4, none⟩ = some (.int .u32 (xe.toNat : Int)) := hX1.cell 4; have f4 := hX1.free 4; have d5 : w4.cell? ⟨g, 5, none⟩ = some (.int .u32 (xf.toNat : Int)) := hX1.cell 5; have f5 := hX1.free 5; have d6 : w4.cell? ⟨g, 6, none⟩ = some (.int .u32 (xg.toNat : Int)) := hX1.cell 6; have f6 := hX1.free 6; have d7 : w4.cell? ⟨g, 7, none⟩ = some (.int .u32 (xh.toNat : Int)) := hX1.cell 7; have f7 := hX1.free 7)
      clear c0 d0 f0 c1 d1 f1 c2 d2 f2 c3 d3 f3 c4 d4 f4 c5 d5 f5 c6 d6 f6 c7 d7 f7
      have hg4 : wr.grownBy w4 (some g) := ⟨hb1.os, hb1.tape, hb1.output, hb1.size, fun i hi _ => hb1.block i hi⟩
      clear hb1
      have hT4 : Tab (set8 w4 g ya yb yc yd ye yf yg yh) := fun t ht => (World.cell?_of_block ((grown8 hg4).block _ hTr.lt (by simp; omega))).trans (hTr t ht)
      by_cases hcc : c' = 64
      · have hcc1 : (c' == 64) = true := by simp [hcc]
        go_wp2
        go_roundw
        case rel =>
          refine ⟨j + 1, d - 64, 0, _, rest', ya, yb, yc, yd, ye, yf, yg, yh, rfl, by have := Hdj.out; omega, ?_, ?_, Hr'.out, put81 hX1, hT4, hgr.trans (grown8 hg4)⟩
          · have : T.drop (64 * (j + 1)) = [] := by apply List.drop_eq_nil_of_le; rw [HT.out]; have := Hdj.out; omega
            rw [this]; exact SliceIs.none_ (by omega)
          · rw [Sha.mixAll, Hst.out]; exact Hm.out
        case measure => simp [lenV]; omega
      · go_wp2
        go_roundw
        case rel =>
          refine ⟨j + 1, d - 64, c' - 64, _, rest', ya, yb, yc, yd, ye, yf, yg, yh, rfl, by have := Hdj.out; omega, ?_, ?_, Hr'.out, put81 hX1, hT4, hgr.trans (grown8 hg4)⟩
          · have := (hS.at_ 64).grown (grown8 (ya := ya) (yb := yb) (yc := yc) (yd := yd) (ye := ye) (yf := yf) (yg := yg) (yh := yh) hg4)
            rw [List.drop_drop, show 64 * j + 64 = 64 * (j + 1) from by omega] at this
            exact this
          · rw [Sha.mixAll, Hst.out]; exact Hm.out
        case measure => simp [lenV]; omega
    · have hd : decide ((64 : Int) ≤ (d : Int)) = false := by simp; omega
      clear hdj
      go_upto_region 10 with (fail)
      repeat ((fail_if_success (with_reducible show wpList _ _ _ (⟨some 66, _, _, _, _, _⟩ :: _) _ _)); first | go_values | go_skip | go_guarded | go_step | go_upon | go_back | go_simp)
      with_reducible refine copy_lies rfl (.tmp 64) (.tmp 65) 27 27 rfl 5 Tryz.underlying27 info5 g 8 _ 149 hLr (u8s (T.drop (64 * j))) (some ⟨g, 8, none⟩) A' 64 64 d c' ?hd ?hs ?hn ?hp ?hf ?h1 ?_
      case hd => rfl
      case hs => rfl
      case hn => (rw [u8s_length, HTd.out]; exact (Nat.min_eq_left (by omega)).symm)
      case hp =>
        intro hpos
        rw [u8s_length] at hpos
        obtain ⟨b, off, rfl, hbg, hbw, hby⟩ := hS.2.2.2 hpos
        exact ⟨rfl, ⟨b, off, none⟩, rfl, fun i v hv => src_at hby hv⟩
      case hf => rw [u8s_length, HTd.out, hash_len _ _ _ Hr'.out]; omega
      case h1 => exact u8s_one _
      intro w7 hL7 hg7
      rw [show 8 = 8 + 0 from rfl, hash_copy _ _ _ _ _ Hr'.out (by rw [HTd.out]; omega)] at hL7
      go_frame
      go_wp2
      go_end0
      refine ⟨rfl, ⟨splice rest' 0 (T.drop (64 * j)), ?_, ?_, ?_, ?_⟩, hgr.trans hg7⟩
      · rw [HTe.out, HT.out, show (n + l) / 64 = j from by have := Hdj.out; omega, Hst.out]; exact hL7
      · rw [length_splice _ _ _ (by rw [HTd.out, Hr'.out]; omega)]; exact Hr'.out
      · rw [HTe.out, HT.out, show (n + l) / 64 = j from by have := Hdj.out; omega, show (n + l) % 64 = (T.drop (64 * j)).length from by rw [HTd.out]; have := Hdj.out; omega]
        simp [splice]
      · exact HTp.out
end Go.Proofs.YthklgpflaghojaaGreatDoor

/-
  The contract of (*Hash).Write where bytes are held back.
-/
namespace Go.Proofs.YthklgpflaghojaaGreatDoor
open Go.RowKit

theorem hash_bytes {w : World} {g n : Nat} {s : Sha.St} {rest : List Nat} (h : Lies w g 149 (hashCells s rest n)) (hr : ∀ x ∈ rest, x < 256) : BytesAt w g 8 rest := fun j x hj => by
  refine ⟨hr x (List.mem_of_getElem? hj), ?_⟩
  have hlt := (List.getElem?_eq_some_iff.1 hj).1
  rw [h.cell, hash_rest s rest n hlt, List.getD_eq_getElem?_getD, hj]; rfl

theorem results_none {fn : Func} (h : fn.results = #[]) (tmps : Array Value) (P : Program) (w : World) : (results fn tmps).run P w = .ok (.tuple #[]) w := by simp [results, h]

set_option maxHeartbeats 400000 in
set_option maxRecDepth 100000 in
theorem write_few (g : Nat) (p q : List Nat) (A : Option Addr) (c : Nat) (w : World) (hT : Tab w) (hH : HashIs w g p) (hq : SliceIs w g A c q) (hg0 : 1 < g) (hn : p.length + q.length < 2305843009213693952) (hm0 : 0 < p.length % 64)
    (hml : p.length % 64 + q.length < 64) :
    Calls Tryz.prog 100 #[.pointer (some ⟨g, 0, none⟩), .slice A q.length c] w fun e w' => e = .returned (.tuple #[]) ∧ HashIs w' g (p ++ q) ∧ w.grownBy w' (some g) := by
  obtain ⟨rest, hL, hr, hrt, hp⟩ := hH
  have Hr := Lib.hid hr
  have Hp := Lib.hid hp
  have hg := hL.lt
  have hqc := hq.1
  have hcm := hq.2.1
  obtain ⟨n, hpn⟩ : ∃ n, p.length = n := ⟨_, rfl⟩
  obtain ⟨l, hql⟩ : ∃ l, q.length = l := ⟨_, rfl⟩
  have Hpn := Lib.hid hpn
  have Hql := Lib.hid hql
  obtain ⟨m, hm⟩ : ∃ m, n % 64 = m := ⟨_, rfl⟩
  rw [hpn] at hn hL hm0 hml hrt
  rw [hql] at hn hqc hml ⊢
  rw [hm] at hm0 hml hrt
  have hm64 : m < 64 := by omega
  have Hm := Lib.hid hm
  have Hrt := Lib.hid hrt
  obtain ⟨T, hTe⟩ : ∃ T, p ++ q = T := ⟨_, rfl⟩
  have HTe := Lib.hid hTe
  have HT : Hid (T.length = n + l) := by unfold Hid; rw [← hTe, List.length_append, hpn, hql]
  have HTp : Hid (∀ x ∈ p ++ q, x < 256) := fun x hx => by
    rcases List.mem_append.1 hx with hx | hx
    · exact hp x hx
    · exact hq.2.2.1 x hx
  have HT0 : Hid (Sha.mixAll Sha.init p (n / 64) = Sha.mixAll Sha.init T (n / 64)) :=
    Sha.mixAll_cong _ _ _ _ (by rw [← hTe, List.take_append_of_le_length (by omega)])
  have HTd0 : Hid (T.drop (64 * (n / 64)) = rest.take m ++ q) := by
    unfold Hid; rw [← hTe, List.drop_append_of_le_length (by omega), hrt]
  clear hr hrt hp hpn hql hTe hm
  have hc72 : w.cell? ⟨g, 72, none⟩ = some (.int .u64 (n : Int)) := by rw [hL.cell, hash_count _ _ _ Hr.out]
  have hf72 := hL.free 72
  have hd0 : decide ((0 : Int) < (m : Int)) = true := by simp; omega
  go_enter Tryz.func100, Tryz.ntmps100
  go_wp2_with fail
  refine (held_any g n _ (by omega) hc72).mono ?_
  rintro e w' ⟨rfl, rfl⟩
  rw [Hm.out]
  go_upto_region 3 with (fail)
  generalize hw5 : World.setCell _ _ _ = w5
  have hLw : Lies w5 g 149 (hashCells (Sha.mixAll Sha.init T (n / 64)) rest (n + l)) := by
    rw [← hw5, ← HT0.out, ← hash_setlen _ _ n (n + l) Hr.out]; exact hL.put 72 _
  have hgw : w.grownBy w5 (some g) := by rw [← hw5]; exact grown_set (World.grownBy.refl w _) _ _
  have hTw : Tab w5 := fun t ht => (World.cell?_of_block (hgw.block _ hT.lt (by simp; omega))).trans (hT t ht)
  have hqw := hq.grown hgw
  clear hw5 hL hc72 hf72 hq hT
  have Hcs := Hql
  have i1 : (m : Int) ≤ 64 := by omega
  have i2 : (0 : Int) ≤ (m : Int) := by omega
  have i4 : m ≤ 64 := by omega
  have i5 : ¬ (64 = m) := by omega
  repeat ((fail_if_success (with_reducible show wpList _ _ _ (⟨some 26, _, _, _, _, _⟩ :: _) _ _)); first | go_values | go_skip | go_guarded | go_step | go_upon | go_back)
  with_reducible refine copy_lies rfl (.tmp 24) (.tmp 25) 27 27 rfl 5 Tryz.underlying27 info5 g (8 + m) _ 149 hLw (u8s q) (some ⟨g, 8 + m, none⟩) A (64 - m) (64 - m) l c ?hd ?hs ?hn ?hp ?hf ?h1 ?_
  case hd => rfl
  case hs => rfl
  case hn => (rw [u8s_length, Hcs.out]; exact (Nat.min_eq_left (by omega)).symm)
  case hp =>
    intro hpos
    rw [u8s_length, Hcs.out] at hpos
    obtain ⟨b, off, rfl, hbg, hbw, hby⟩ := hqw.2.2.2 (by rw [Hql.out]; omega)
    exact ⟨rfl, ⟨b, off, none⟩, rfl, fun i v hv => src_at hby hv⟩
  case hf => rw [u8s_length, Hcs.out, hash_len _ _ _ Hr.out]; omega
  case h1 => exact u8s_one _
  intro w7 hL7 hg7
  rw [hash_copy _ _ _ _ _ Hr.out (by rw [Hcs.out]; omega)] at hL7
  rw [u8s_length, Hcs.out]
  have hg7' := hgw.trans hg7
  have hT7 : Tab w7 := fun t ht => (World.cell?_of_block (hg7.block _ hTw.lt (by simp; omega))).trans (hTw t ht)
  have hq7 := hqw.grown hg7
  clear hg7 hLw hgw hTw hqw
  go_frame
  have hd1 : decide ((m : Int) + (l : Int) < 64) = true := by simp; omega
  go_wp2_with fail
  refine bodyPost_ret (results_none rfl _ _ _) rfl ⟨rfl, ⟨splice rest m q, ?_, ?_, ?_, ?_⟩, hg7'⟩
  · rw [HTe.out, HT.out, show (n + l) / 64 = n / 64 from by have := Hm.out; omega]; exact hL7
  · rw [length_splice _ _ _ (by rw [Hql.out, Hr.out]; omega)]; exact Hr.out
  · rw [HTe.out, HT.out, show (n + l) / 64 = n / 64 from by have := Hm.out; omega, HTd0.out, show (n + l) % 64 = (rest.take m ++ q).length from by rw [List.length_append, List.length_take, Hr.out, Hql.out]; have := Hm.out; omega]
    unfold splice
    rw [← List.append_assoc, List.take_append_length]
  · exact HTp.out

set_option maxHeartbeats 1000000 in
set_option maxRecDepth 100000 in
theorem write_more (g : Nat) (p q : List Nat) (A : Option Addr) (c : Nat) (w : World) (hT : Tab w) (hH : HashIs w g p) (hq : SliceIs w g A c q) (hg0 : 1 < g) (hn : p.length + q.length < 2305843009213693952) (hm0 : 0 < p.length % 64)
    (hml : 64 ≤ p.length % 64 + q.length) :
    Calls Tryz.prog 100 #[.pointer (some ⟨g, 0, none⟩), .slice A q.length c] w fun e w' => e = .returned (.tuple #[]) ∧ HashIs w' g (p ++ q) ∧ w.grownBy w' (some g) := by
  obtain ⟨rest, hL, hr, hrt, hp⟩ := hH
  have Hr := Lib.hid hr
  have Hp := Lib.hid hp
  have hg := hL.lt
  have hqc := hq.1
  have hcm := hq.2.1
  obtain ⟨n, hpn⟩ : ∃ n, p.length = n := ⟨_, rfl⟩
  obtain ⟨l, hql⟩ : ∃ l, q.length = l := ⟨_, rfl⟩
  have Hpn := Lib.hid hpn
  have Hql := Lib.hid hql
  obtain ⟨m, hm⟩ : ∃ m, n % 64 = m := ⟨_, rfl⟩
  rw [hpn] at hn hL hm0 hml hrt
  rw [hql] at hn hqc hml ⊢
  rw [hm] at hm0 hml hrt
  have hm64 : m < 64 := by omega
  have Hm := Lib.hid hm
  have Hrt := Lib.hid hrt
  obtain ⟨T, hTe⟩ : ∃ T, p ++ q = T := ⟨_, rfl⟩
  have HTe := Lib.hid hTe
  have HT : Hid (T.length = n + l) := by unfold Hid; rw [← hTe, List.length_append, hpn, hql]
  have HTp : Hid (∀ x ∈ p ++ q, x < 256) := fun x hx => by
    rcases List.mem_append.1 hx with hx | hx
    · exact hp x hx
    · exact hq.2.2.1 x hx
  have HT0 : Hid (Sha.mixAll Sha.init p (n / 64) = Sha.mixAll Sha.init T (n / 64)) :=
    Sha.mixAll_cong _ _ _ _ (by rw [← hTe, List.take_append_of_le_length (by omega)])
  have HTd0 : Hid (T.drop (64 * (n / 64)) = rest.take m ++ q) := by
    unfold Hid; rw [← hTe, List.drop_append_of_le_length (by omega), hrt]
  clear hr hrt hp hpn hql hTe hm
  have hc72 : w.cell? ⟨g, 72, none⟩ = some (.int .u64 (n : Int)) := by rw [hL.cell, hash_count _ _ _ Hr.out]
  have hf72 := hL.free 72
  have hd0 : decide ((0 : Int) < (m : Int)) = true := by simp; omega
  go_enter Tryz.func100, Tryz.ntmps100
  go_wp2_with fail
  refine (held_any g n _ (by omega) hc72).mono ?_
  rintro e w' ⟨rfl, rfl⟩
  rw [Hm.out]
  go_upto_region 3 with (fail)
  generalize hw5 : World.setCell _ _ _ = w5
  have hLw : Lies w5 g 149 (hashCells (Sha.mixAll Sha.init T (n / 64)) rest (n + l)) := by
    rw [← hw5, ← HT0.out, ← hash_setlen _ _ n (n + l) Hr.out]; exact hL.put 72 _
  have hgw : w.grownBy w5 (some g) := by rw [← hw5]; exact grown_set (World.grownBy.refl w _) _ _
  have hTw : Tab w5 := fun t ht => (World.cell?_of_block (hgw.block _ hT.lt (by simp; omega))).trans (hT t ht)
  have hqw := hq.grown hgw
  clear hw5 hL hc72 hf72 hq hT
  have Hcs : Hid ((q.take (64 - m)).length = 64 - m) := by unfold Hid; rw [List.length_take, Hql.out]; omega
  have i1 : (m : Int) ≤ 64 := by omega
  have i2 : (0 : Int) ≤ (m : Int) := by omega
  have i4 : m ≤ 64 := by omega
  have i5 : ¬ (64 = m) := by omega
  repeat ((fail_if_success (with_reducible show wpList _ _ _ (⟨some 26, _, _, _, _, _⟩ :: _) _ _)); first | go_values | go_skip | go_guarded | go_step | go_upon | go_back)
  with_reducible refine copy_lies rfl (.tmp 24) (.tmp 25) 27 27 rfl 5 Tryz.underlying27 info5 g (8 + m) _ 149 hLw (u8s (q.take (64 - m))) (some ⟨g, 8 + m, none⟩) A (64 - m) (64 - m) l c ?hd ?hs ?hn ?hp ?hf ?h1 ?_
  case hd => rfl
  case hs => rfl
  case hn => (rw [u8s_length, Hcs.out]; exact (Nat.min_eq_right (by omega)).symm)
  case hp =>
    intro hpos
    rw [u8s_length, Hcs.out] at hpos
    obtain ⟨b, off, rfl, hbg, hbw, hby⟩ := hqw.2.2.2 (by rw [Hql.out]; omega)
    exact ⟨rfl, ⟨b, off, none⟩, rfl, fun i v hv => src_at (hby.take (64 - m)) hv⟩
  case hf => rw [u8s_length, Hcs.out, hash_len _ _ _ Hr.out]; omega
  case h1 => exact u8s_one _
  intro w7 hL7 hg7
  rw [hash_copy _ _ _ _ _ Hr.out (by rw [Hcs.out]; omega)] at hL7
  rw [u8s_length, Hcs.out]
  have hg7' := hgw.trans hg7
  have hT7 : Tab w7 := fun t ht => (World.cell?_of_block (hg7.block _ hTw.lt (by simp; omega))).trans (hTw t ht)
  have hq7 := hqw.grown hg7
  clear hg7 hLw hgw hTw hqw
  go_frame
  have hd1 : decide ((m : Int) + ((64 - m : Nat) : Int) < 64) = false := by simp; omega
  obtain ⟨b, off, rfl, hbg, hbw, hby⟩ := hq7.2.2.2 (by rw [Hql.out]; omega)
  have HR2 : Hid ((splice rest m (q.take (64 - m))).length = 64) := by unfold Hid; rw [length_splice _ _ _ (by rw [Hcs.out, Hr.out]; omega)]; exact Hr.out
  have HTd1 : Hid (T.drop (64 * (n / 64 + 1)) = q.drop (64 - m)) := by
    unfold Hid
    rw [show 64 * (n / 64 + 1) = 64 * (n / 64) + 64 from by omega, ← List.drop_drop, HTd0.out, List.drop_append, List.length_take, Hr.out, Nat.min_eq_left (by omega), List.drop_eq_nil_of_le (by rw [List.length_take]; omega)]; rfl
  have HTg : Hid ((T.drop (64 * (n / 64))).take 64 = splice rest m (q.take (64 - m))) := by
    unfold Hid splice
    rw [HTd0.out, Hcs.out, List.drop_eq_nil_of_le (by rw [Hr.out]; omega), List.take_append, List.length_take, Hr.out, Nat.min_eq_left (by omega), List.take_of_length_le (by rw [List.length_take]; omega), List.append_nil]
  obtain ⟨s, hs⟩ : ∃ s, Sha.mixAll Sha.init T (n / 64) = s := ⟨_, rfl⟩
  rw [hs] at hL7
  have Hs := Lib.hid hs
  clear hs
  obtain ⟨xa, xb, xc, xd, xe, xf, xg, xh⟩ := s
  have hbyr : BytesAt w7 g 8 (splice rest m (q.take (64 - m))) := hash_bytes hL7 (by
    rw [← HTg.out]
    intro x hx
    exact HTp.out x (by rw [HTe.out]; exact List.mem_of_mem_drop (List.mem_of_mem_take hx)))
  have c0 : w7.cell? ⟨g, 0, none⟩ = some (.int .u32 (xa.toNat : Int)) := hL7.cell 0
  have c1 : w7.cell? ⟨g, 1, none⟩ = some (.int .u32 (xb.toNat : Int)) := hL7.cell 1
  have c2 : w7.cell? ⟨g, 2, none⟩ = some (.int .u32 (xc.toNat : Int)) := hL7.cell 2
  have c3 : w7.cell? ⟨g, 3, none⟩ = some (.int .u32 (xd.toNat : Int)) := hL7.cell 3
  have c4 : w7.cell? ⟨g, 4, none⟩ = some (.int .u32 (xe.toNat : Int)) := hL7.cell 4
  have c5 : w7.cell? ⟨g, 5, none⟩ = some (.int .u32 (xf.toNat : Int)) := hL7.cell 5
  have c6 : w7.cell? ⟨g, 6, none⟩ = some (.int .u32 (xg.toNat : Int)) := hL7.cell 6
  have c7 : w7.cell? ⟨g, 7, none⟩ = some (.int .u32 (xh.toNat : Int)) := hL7.cell 7
  go_upto_region 5 with (fail)
  go_region_with (go_at_call 126; refine (mix_lit ⟨xa, xb, xc, xd, xe, xf, xg, xh⟩ g 8 64 64 (splice rest m (q.take (64 - m))) _ (by exact hT7) (by omega) (by omega) (by omega) HR2.out (by exact hL7.lt) (by exact hbyr)).mono ?_; rintro e w4 ⟨ya, yb, yc, yd, ye, yf, yg, yh, rfl, HM0, hb1⟩; have hX1 := Lies.below (by exact hL7) hb1 (by exact hL7.lt); have d0 : w4.cell? ⟨g, 0, none⟩ = some (.int .u32 (xa.toNat : Int)) := hX1.cell 0; have f0 := hX1.free 0; have d1 : w4.cell? ⟨g, 1, none⟩ = some (.int .u32 (xb.toNat : Int)) := hX1.cell 1; have f1 := hX1.free 1; have d2 : w4.cell? ⟨g, 2, none⟩ = some (.int .u32 (xc.toNat : Int)) := hX1.cell 2; have f2 := hX1.free 2; have d3 : w4.cell? ⟨g, 3, none⟩ = some (.int .u32 (xd.toNat : Int)) := hX1.cell 3; have f3 := hX1.free 3; have d4 : w4.cell? ⟨g, 4, none⟩ = some (.int .u32 (xe.toNat : Int)) := hX1.cell 4; have f4 := hX1.free 4; have d5 : w4.cell? ⟨g, 5, none⟩ = some (.int .u32 (xf.toNat : Int)) := hX1.cell 5; have f5 := hX1.free 5; have d6 : w4.cell? ⟨g, 6, none⟩ = some (.int .u32 (xg.toNat : Int)) := hX1.cell 6; have f6 := hX1.free 6; have d7 : w4.cell? ⟨g, 7, none⟩ = some (.int .u32 (xh.toNat : Int)) := hX1.cell 7; have f7 := hX1.free 7)
  clear c0 d0 f0 c1 d1 f1 c2 d2 f2 c3 d3 f3 c4 d4 f4 c5 d5 f5 c6 d6 f6 c7 d7 f7
  have hg4 : w7.grownBy w4 (some g) := ⟨hb1.os, hb1.tape, hb1.output, hb1.size, fun i hi _ => hb1.block i hi⟩
  clear hb1
  have hT8 : Tab (set8 w4 g ya yb yc yd ye yf yg yh) := fun t ht => (World.cell?_of_block ((grown8 hg4).block _ hT7.lt (by simp; omega))).trans (hT7 t ht)
  have HM : Hid (Sha.mixAll Sha.init T (n / 64 + 1) = ⟨ya, yb, yc, yd, ye, yf, yg, yh⟩) := by unfold Hid; rw [Sha.mixAll, Hs.out, HTg.out]; exact HM0.out
  have k1 : ((64 - m : Nat) : Int) ≤ (l : Int) := by omega
  by_cases hcc : c = 64 - m
  · have hcc1 : (c == 64 - m) = true := by simp [hcc]
    go_wp2_with fail
    have Hcc := Lib.hid hcc
    clear hcc hcc1 hd0 hd1 k1 i1 i2 i4 i5
    go_loopw [1] (fun v wr => ∃ (j d c' : Nat) (A' : Option Addr) (rest : List Nat) (xa xb xc xd xe xf xg xh : Sha.W), v = .slice A' d c' ∧ d + 64 * j = n + l ∧ SliceIs wr g A' c' (T.drop (64 * j)) ∧
        Sha.mixAll Sha.init T j = ⟨xa, xb, xc, xd, xe, xf, xg, xh⟩ ∧ rest.length = 64 ∧ Lies wr g 149 (hashCells ⟨xa, xb, xc, xd, xe, xf, xg, xh⟩ rest (n + l)) ∧ Tab wr ∧ w.grownBy wr (some g))
      (fun v _ => lenV v)
    case atStart =>
      refine ⟨n / 64 + 1, l - (64 - m), 0, _, splice rest m (q.take (64 - m)), _, _, _, _, _, _, _, _, rfl, by have := Hm.out; omega, ?_, HM.out, HR2.out, put81 hX1, hT8, hg7'.trans (grown8 hg4)⟩
      have : T.drop (64 * (n / 64 + 1)) = [] := by apply List.drop_eq_nil_of_le; rw [HT.out]; have := Hm.out; have := Hcc.out; omega
      rw [this]; exact SliceIs.none_ (by omega)
    case round =>
      obtain ⟨j, d, c', A', rest', xa, xb, xc, xd, xe, xf, xg, xh, rfl, hdj, hS, hst, hr', hLr, hTr, hgr⟩ := hrel
      have Hst := Lib.hid hst
      have Hr' := Lib.hid hr'
      have Hdj := Lib.hid hdj
      have hTd : (T.drop (64 * j)).length = d := by rw [List.length_drop, HT.out]; omega
      have HTd := Lib.hid hTd
      have hdc : d ≤ c' := by have := hS.1; rw [hTd] at this; exact this
      have hcm' := hS.2.1
      have hjn : 64 * j ≤ n + l := by omega
      clear hst hr' hTd
      by_cases hlt : 64 ≤ d
      · have hd : decide ((64 : Int) ≤ (d : Int)) = true := by simp; omega
        obtain ⟨b, off, rfl, hbg, hbw, hby⟩ := hS.2.2.2 (by rw [HTd.out]; omega)
        have hby64 := hby.take 64
        have Hl64 : Hid (((T.drop (64 * j)).take 64).length = 64) := by unfold Hid; rw [List.length_take, HTd.out]; omega
        have hc64 : (64 : Int) ≤ (c' : Int) := by omega
        have c0 : wr.cell? ⟨g, 0, none⟩ = some (.int .u32 (xa.toNat : Int)) := hLr.cell 0
        have c1 : wr.cell? ⟨g, 1, none⟩ = some (.int .u32 (xb.toNat : Int)) := hLr.cell 1
        have c2 : wr.cell? ⟨g, 2, none⟩ = some (.int .u32 (xc.toNat : Int)) := hLr.cell 2
        have c3 : wr.cell? ⟨g, 3, none⟩ = some (.int .u32 (xd.toNat : Int)) := hLr.cell 3
        have c4 : wr.cell? ⟨g, 4, none⟩ = some (.int .u32 (xe.toNat : Int)) := hLr.cell 4
        have c5 : wr.cell? ⟨g, 5, none⟩ = some (.int .u32 (xf.toNat : Int)) := hLr.cell 5
        have c6 : wr.cell? ⟨g, 6, none⟩ = some (.int .u32 (xg.toNat : Int)) := hLr.cell 6
        have c7 : wr.cell? ⟨g, 7, none⟩ = some (.int .u32 (xh.toNat : Int)) := hLr.cell 7
        clear hdj
        go_wp2_with fail
        go_region_with (go_at_call 126; refine (mix_lit ⟨xa, xb, xc, xd, xe, xf, xg, xh⟩ b off 64 _ ((T.drop (64 * j)).take 64) _ (by exact hTr) (by omega) (by omega) (by omega) Hl64.out (by exact hbw) (by exact hby64)).mono ?_; rintro e w4 ⟨ya, yb, yc, yd, ye, yf, yg, yh, rfl, Hm, hb1⟩; have hX1 := Lies.below (by exact hLr) hb1 (by exact hLr.lt); have d0 : w4.cell? ⟨g, 0, none⟩ = some (.int .u32 (xa.toNat : Int)) := hX1.cell 0; have f0 := hX1.free 0; have d1 : w4.cell? ⟨g, 1, none⟩ = some (.int .u32 (xb.toNat : Int)) := hX1.cell 1; have f1 := hX1.free 1; have d2 : w4.cell? ⟨g, 2, none⟩ = some (.int .u32 (xc.toNat : Int)) := hX1.cell 2; have f2 := hX1.free 2; have d3 : w4.cell? ⟨g, 3, none⟩ = some (.int .u32 (xd.toNat : Int)) := hX1.cell 3; have f3 := hX1.free 3; have d4 : w4.cell? ⟨g, 4, none⟩ = some (.int .u32 (xe.toNat : Int)) := hX1.cell 4; have f4 := hX1.free 4; have d5 : w4.cell? ⟨g, 5, none⟩ = some (.int .u32 (xf.toNat : Int)) := hX1.cell 5; have f5 := hX1.free 5; have d6 : w4.cell? ⟨g, 6, none⟩ = some (.int .u32 (xg.toNat : Int)) := hX1.cell 6; have f6 := hX1.free 6; have d7 : w4.cell? ⟨g, 7, none⟩ = some (.int .u32 (xh.toNat : Int)) := hX1.cell 7; have f7 := hX1.free 7)
        clear c0 d0 f0 c1 d1 f1 c2 d2 f2 c3 d3 f3 c4 d4 f4 c5 d5 f5 c6 d6 f6 c7 d7 f7
        have hg4 : wr.grownBy w4 (some g) := ⟨hb1.os, hb1.tape, hb1.output, hb1.size, fun i hi _ => hb1.block i hi⟩
        clear hb1
        have hT4 : Tab (set8 w4 g ya yb yc yd ye yf yg yh) := fun t ht => (World.cell?_of_block ((grown8 hg4).block _ hTr.lt (by simp; omega))).trans (hTr t ht)
        by_cases hcc : c' = 64
        · have hcc1 : (c' == 64) = true := by simp [hcc]
          go_wp2
          go_roundw
          case rel =>
            refine ⟨j + 1, d - 64, 0, _, rest', ya, yb, yc, yd, ye, yf, yg, yh, rfl, by have := Hdj.out; omega, ?_, ?_, Hr'.out, put81 hX1, hT4, hgr.trans (grown8 hg4)⟩
            · have : T.drop (64 * (j + 1)) = [] := by apply List.drop_eq_nil_of_le; rw [HT.out]; have := Hdj.out; omega
              rw [this]; exact SliceIs.none_ (by omega)
            · rw [Sha.mixAll, Hst.out]; exact Hm.out
          case measure => simp [lenV]; omega
        · go_wp2
          go_roundw
          case rel =>
            refine ⟨j + 1, d - 64, c' - 64, _, rest', ya, yb, yc, yd, ye, yf, yg, yh, rfl, by have := Hdj.out; omega, ?_, ?_, Hr'.out, put81 hX1, hT4, hgr.trans (grown8 hg4)⟩
            · have := (hS.at_ 64).grown (grown8 (ya := ya) (yb := yb) (yc := yc) (yd := yd) (ye := ye) (yf := yf) (yg := yg) (yh := yh) hg4)
              rw [List.drop_drop, show 64 * j + 64 = 64 * (j + 1) from by omega] at this
              exact this
            · rw [Sha.mixAll, Hst.out]; exact Hm.out
          case measure => simp [lenV]; omega
      · have hd : decide ((64 : Int) ≤ (d : Int)) = false := by simp; omega
        clear hdj
        go_upto_region 10 with (fail)
        repeat ((fail_if_success (with_reducible show wpList _ _ _ (⟨some 66, _, _, _, _, _⟩ :: _) _ _)); first | go_values | go_skip | go_guarded | go_step | go_upon | go_back | go_simp)
        with_reducible refine copy_lies rfl (.tmp 64) (.tmp 65) 27 27 rfl 5 Tryz.underlying27 info5 g 8 _ 149 hLr (u8s (T.drop (64 * j))) (some ⟨g, 8, none⟩) A' 64 64 d c' ?hd ?hs ?hn ?hp ?hf ?h1 ?_
        case hd => rfl
        case hs => rfl
        case hn => (rw [u8s_length, HTd.out]; exact (Nat.min_eq_left (by omega)).symm)
        case hp =>
          intro hpos
          rw [u8s_length] at hpos
          obtain ⟨b, off, rfl, hbg, hbw, hby⟩ := hS.2.2.2 hpos
          exact ⟨rfl, ⟨b, off, none⟩, rfl, fun i v hv => src_at hby hv⟩
        case hf => rw [u8s_length, HTd.out, hash_len _ _ _ Hr'.out]; omega
        case h1 => exact u8s_one _
        intro w7 hL7 hg7
        rw [show 8 = 8 + 0 from rfl, hash_copy _ _ _ _ _ Hr'.out (by rw [HTd.out]; omega)] at hL7
        go_frame
        go_wp2
        go_end0
        refine ⟨rfl, ⟨splice rest' 0 (T.drop (64 * j)), ?_, ?_, ?_, ?_⟩, hgr.trans hg7⟩
        · rw [HTe.out, HT.out, show (n + l) / 64 = j from by have := Hdj.out; omega, Hst.out]; exact hL7
        · rw [length_splice _ _ _ (by rw [HTd.out, Hr'.out]; omega)]; exact Hr'.out
        · rw [HTe.out, HT.out, show (n + l) / 64 = j from by have := Hdj.out; omega, show (n + l) % 64 = (T.drop (64 * j)).length from by rw [HTd.out]; have := Hdj.out; omega]
          simp [splice]
        · exact HTp.out
  · go_wp2_with fail
    clear hcc hd0 hd1 k1 i1 i2 i4 i5
    go_loopw [1] (fun v wr => ∃ (j d c' : Nat) (A' : Option Addr) (rest : List Nat) (xa xb xc xd xe xf xg xh : Sha.W), v = .slice A' d c' ∧ d + 64 * j = n + l ∧ SliceIs wr g A' c' (T.drop (64 * j)) ∧
        Sha.mixAll Sha.init T j = ⟨xa, xb, xc, xd, xe, xf, xg, xh⟩ ∧ rest.length = 64 ∧ Lies wr g 149 (hashCells ⟨xa, xb, xc, xd, xe, xf, xg, xh⟩ rest (n + l)) ∧ Tab wr ∧ w.grownBy wr (some g))
      (fun v _ => lenV v)
    case atStart =>
      refine ⟨n / 64 + 1, l - (64 - m), c - (64 - m), _, splice rest m (q.take (64 - m)), _, _, _, _, _, _, _, _, rfl, by have := Hm.out; omega, ?_, HM.out, HR2.out, put81 hX1, hT8, hg7'.trans (grown8 hg4)⟩
      have := (hq7.at_ (64 - m)).grown (grown8 (ya := ya) (yb := yb) (yc := yc) (yd := yd) (ye := ye) (yf := yf) (yg := yg) (yh := yh) hg4)
      rw [← HTd1.out] at this
      exact this
    case round =>
      obtain ⟨j, d, c', A', rest', xa, xb, xc, xd, xe, xf, xg, xh, rfl, hdj, hS, hst, hr', hLr, hTr, hgr⟩ := hrel
      have Hst := Lib.hid hst
      have Hr' := Lib.hid hr'
      have Hdj := Lib.hid hdj
      have hTd : (T.drop (64 * j)).length = d := by rw [List.length_drop, HT.out]; omega
      have HTd := Lib.hid hTd
      have hdc : d ≤ c' := by have := hS.1; rw [hTd] at this; exact this
      have hcm' := hS.2.1
      have hjn : 64 * j ≤ n + l := by omega
      clear hst hr' hTd
      by_cases hlt : 64 ≤ d
      · have hd : decide ((64 : Int) ≤ (d : Int)) = true := by simp; omega
        obtain ⟨b, off, rfl, hbg, hbw, hby⟩ := hS.2.2.2 (by rw [HTd.out]; omega)
        have hby64 := hby.take 64
        have Hl64 : Hid (((T.drop (64 * j)).take 64).length = 64) := by unfold Hid; rw [List.length_take, HTd.out]; omega
        have hc64 : (64 : Int) ≤ (c' : Int) := by omega
        have c0 : wr.cell? ⟨g, 0, none⟩ = some (.int .u32 (xa.toNat : Int)) := hLr.cell 0
        have c1 : wr.cell? ⟨g, 1, none⟩ = some (.int .u32 (xb.toNat : Int)) := hLr.cell 1
        have c2 : wr.cell? ⟨g, 2, none⟩ = some (.int .u32 (xc.toNat : Int)) := hLr.cell 2
        have c3 : wr.cell? ⟨g, 3, none⟩ = some (.int .u32 (xd.toNat : Int)) := hLr.cell 3
        have c4 : wr.cell? ⟨g, 4, none⟩ = some (.int .u32 (xe.toNat : Int)) := hLr.cell 4
        have c5 : wr.cell? ⟨g, 5, none⟩ = some (.int .u32 (xf.toNat : Int)) := hLr.cell 5
        have c6 : wr.cell? ⟨g, 6, none⟩ = some (.int .u32 (xg.toNat : Int)) := hLr.cell 6
        have c7 : wr.cell? ⟨g, 7, none⟩ = some (.int .u32 (xh.toNat : Int)) := hLr.cell 7
        clear hdj
        go_wp2_with fail
        go_region_with (go_at_call 126; refine (mix_lit ⟨xa, xb, xc, xd, xe, xf, xg, xh⟩ b off 64 _ ((T.drop (64 * j)).take 64) _ (by exact hTr) (by omega) (by omega) (by omega) Hl64.out (by exact hbw) (by exact hby64)).mono ?_; rintro e w4 ⟨ya, yb, yc, yd, ye, yf, yg, yh, rfl, Hm, hb1⟩; have hX1 := Lies.below (by exact hLr) hb1 (by exact hLr.lt); have d0 : w4.cell? ⟨g, 0, none⟩ = some (.int .u32 (xa.toNat : Int)) := hX1.cell 0; have f0 := hX1.free 0; have d1 : w4.cell? ⟨g, 1, none⟩ = some (.int .u32 (xb.toNat : Int)) := hX1.cell 1; have f1 := hX1.free 1; have d2 : w4.cell? ⟨g, 2, none⟩ = some (.int .u32 (xc.toNat : Int)) := hX1.cell 2; have f2 := hX1.free 2; have d3 : w4.cell? ⟨g, 3, none⟩ = some (.int .u32 (xd.toNat : Int)) := hX1.cell 3; have f3 := hX1.free 3; have d4 : w4.cell? ⟨g, 4, none⟩ = some (.int .u32 (xe.toNat : Int)) := hX1.cell 4; have f4 := hX1.free 4; have d5 : w4.cell? ⟨g, 5, none⟩ = some (.int .u32 (xf.toNat : Int)) := hX1.cell 5; have f5 := hX1.free 5; have d6 : w4.cell? ⟨g, 6, none⟩ = some (.int .u32 (xg.toNat : Int)) := hX1.cell 6; have f6 := hX1.free 6; have d7 : w4.cell? ⟨g, 7, none⟩ = some (.int .u32 (xh.toNat : Int)) := hX1.cell 7; have f7 := hX1.free 7)
        clear c0 d0 f0 c1 d1 f1 c2 d2 f2 c3 d3 f3 c4 d4 f4 c5 d5 f5 c6 d6 f6 c7 d7 f7
        have hg4 : wr.grownBy w4 (some g) := ⟨hb1.os, hb1.tape, hb1.output, hb1.size, fun i hi _ => hb1.block i hi⟩
        clear hb1
        have hT4 : Tab (set8 w4 g ya yb yc yd ye yf yg yh) := fun t ht => (World.cell?_of_block ((grown8 hg4).block _ hTr.lt (by simp; omega))).trans (hTr t ht)
        by_cases hcc : c' = 64
        · have hcc1 : (c' == 64) = true := by simp [hcc]
          go_wp2
          go_roundw
          case rel =>
            refine ⟨j + 1, d - 64, 0, _, rest', ya, yb, yc, yd, ye, yf, yg, yh, rfl, by have := Hdj.out; omega, ?_, ?_, Hr'.out, put81 hX1, hT4, hgr.trans (grown8 hg4)⟩
            · have : T.drop (64 * (j + 1)) = [] := by apply List.drop_eq_nil_of_le; rw [HT.out]; have := Hdj.out; omega
              rw [this]; exact SliceIs.none_ (by omega)
            · rw [Sha.mixAll, Hst.out]; exact Hm.out
          case measure => simp [lenV]; omega
        · go_wp2
          go_roundw
          case rel =>
            refine ⟨j + 1, d - 64, c' - 64, _, rest', ya, yb, yc, yd, ye, yf, yg, yh, rfl, by have := Hdj.out; omega, ?_, ?_, Hr'.out, put81 hX1, hT4, hgr.trans (grown8 hg4)⟩
            · have := (hS.at_ 64).grown (grown8 (ya := ya) (yb := yb) (yc := yc) (yd := yd) (ye := ye) (yf := yf) (yg := yg) (yh := yh) hg4)
              rw [List.drop_drop, show 64 * j + 64 = 64 * (j + 1) from by omega] at this
              exact this
            · rw [Sha.mixAll, Hst.out]; exact Hm.out
          case measure => simp [lenV]; omega
      · have hd : decide ((64 : Int) ≤ (d : Int)) = false := by simp; omega
        clear hdj
        go_upto_region 10 with (fail)
        repeat ((fail_if_success (with_reducible show wpList _ _ _ (⟨some 66, _, _, _, _, _⟩ :: _) _ _)); first | go_values | go_skip | go_guarded | go_step | go_upon | go_back | go_simp)
        with_reducible refine copy_lies rfl (.tmp 64) (.tmp 65) 27 27 rfl 5 Tryz.underlying27 info5 g 8 _ 149 hLr (u8s (T.drop (64 * j))) (some ⟨g, 8, none⟩) A' 64 64 d c' ?hd ?hs ?hn ?hp ?hf ?h1 ?_
        case hd => rfl
        case hs => rfl
        case hn => (rw [u8s_length, HTd.out]; exact (Nat.min_eq_left (by omega)).symm)
        case hp =>
          intro hpos
          rw [u8s_length] at hpos
          obtain ⟨b, off, rfl, hbg, hbw, hby⟩ := hS.2.2.2 hpos
          exact ⟨rfl, ⟨b, off, none⟩, rfl, fun i v hv => src_at hby hv⟩
        case hf => rw [u8s_length, HTd.out, hash_len _ _ _ Hr'.out]; omega
        case h1 => exact u8s_one _
        intro w7 hL7 hg7
        rw [show 8 = 8 + 0 from rfl, hash_copy _ _ _ _ _ Hr'.out (by rw [HTd.out]; omega)] at hL7
        go_frame
        go_wp2
        go_end0
        refine ⟨rfl, ⟨splice rest' 0 (T.drop (64 * j)), ?_, ?_, ?_, ?_⟩, hgr.trans hg7⟩
        · rw [HTe.out, HT.out, show (n + l) / 64 = j from by have := Hdj.out; omega, Hst.out]; exact hL7
        · rw [length_splice _ _ _ (by rw [HTd.out, Hr'.out]; omega)]; exact Hr'.out
        · rw [HTe.out, HT.out, show (n + l) / 64 = j from by have := Hdj.out; omega, show (n + l) % 64 = (T.drop (64 * j)).length from by rw [HTd.out]; have := Hdj.out; omega]
          simp [splice]
        · exact HTp.out
end Go.Proofs.YthklgpflaghojaaGreatDoor
