/-
  The contract of lastGroups: the padded end of what a hash was told.
-/
import Derived.Test.YtkfhfokeoieajaaDoorTail
import Derived.Deep.RegionLaw
namespace Go.Proofs.YtkfhfokeoieajaaDoor
open Go.RowKit

theorem hash_len (s : Sha.St) (rest : List Nat) (n : Nat) (hr : rest.length = 64) : (hashCells s rest n).length = 73 := by
  simp [hashCells, u32s_length, u8s_length, Sha.St.list, hr]
theorem hash_count (s : Sha.St) (rest : List Nat) (n : Nat) (hr : rest.length = 64) : (hashCells s rest n)[72]? = some (.int .u64 (n : Int)) := by
  unfold hashCells
  rw [List.getElem?_append_right (by simp [u32s_length, Sha.St.list]), List.getElem?_append_right (by simp [u32s_length, u8s_length, Sha.St.list, hr])]
  simp [u32s_length, u8s_length, Sha.St.list, hr]
theorem hash_rest (s : Sha.St) (rest : List Nat) (n : Nat) {j : Nat} (hj : j < rest.length) : (hashCells s rest n)[8 + j]? = some (.int .u8 (rest.getD j 0 : Nat)) := by
  unfold hashCells
  rw [List.getElem?_append_right (by simp [u32s_length, Sha.St.list]), List.getElem?_append_left (by simp [u32s_length, u8s_length, Sha.St.list, hj])]
  simp only [u32s_length, Sha.St.list, List.length_cons, List.length_nil]
  rw [show 8 + j - (0 + 1 + 1 + 1 + 1 + 1 + 1 + 1 + 1) = j from by omega]
  exact u8s_at rest hj
theorem info5 : (Tryd.prog.info? 5).map (·.size) = some 1 := by kernel_rfl
theorem info54 : (Tryd.prog.info? 54).map (·.size) = some 128 := by kernel_rfl

theorem z8_length (n : Nat) : (z8 n).length = n := by simp [z8]
theorem set_splice {α : Type} (L : List α) (k : Nat) (x : α) (h : k < L.length) : L.set k x = splice L k [x] := by
  rw [List.set_eq_take_append_cons_drop, if_pos h]; simp [splice]

theorem putWord_v (g off n c : Nat) (v : Int) (w : World) (t : TypeId) (cs : List Value) (hL : Lies w g t cs) (h0 : 0 ≤ v) (h1 : v < 4294967296) (hn : 4 ≤ n) (hf : off + 4 ≤ cs.length) :
    Calls Tryd.prog 28 #[.slice (some ⟨g, off, none⟩) n c, .int .u32 v] w fun e w' => e = .returned (.tuple #[]) ∧ Lies w' g t (splice cs off (u8s (Sha.be v.toNat 4))) ∧ w.grownBy w' (some g) := by
  obtain ⟨k, rfl⟩ := Int.eq_ofNat_of_zero_le h0
  have h := putWord_lies g off n c (BitVec.ofNat 32 k) w t cs hL hn hf
  rw [BitVec.toNat_ofNat, Nat.mod_eq_of_lt (by omega)] at h
  exact h

theorem results_two {P : Program} {fn : Func} {p u : Tmp} {ty : TypeId} (h : fn.results = #[.cell p ty, .tmp u]) (tmps : Array Value) (w : World) (g : Nat) (t : TypeId) (cs : List Value) (d : TypeDesc)
    (hp : tmps.getD p undef = .pointer (some ⟨g, 0, none⟩)) (hg : Lies w g t cs)
    (hu : P.underlying ty = some d) (hd : (match d with | .struct _ | .array _ _ => true | _ => false) = true) (hi : (P.info? ty).map (·.size) = some cs.length) :
    (results fn tmps).run P w = .ok (.tuple #[.agg cs.toArray, tmps.getD u undef]) w := by
  rw [results_cell_tmp h, hp]
  have := run_loadVar_row (P := P) w g t ty cs.toArray (0, 0) d hg hu hd (by rw [hi]; simp)
  simp [asAddr, this, Result.andThen]

theorem zero54 (w : World) : (zeroValue 54).run Tryd.prog w = .ok (.agg (z8 128).toArray) w := by kernel_rfl

set_option maxHeartbeats 400000 in
set_option maxRecDepth 100000 in
theorem lastGroups_any (g : Nat) (s : Sha.St) (rest : List Nat) (n : Nat) (w : World) (hL : Lies w g 51 (hashCells s rest n)) (hr : rest.length = 64) (hn : n < 2305843009213693952) :
    Calls Tryd.prog 27 #[.pointer (some ⟨g, 0, none⟩)] w fun e w' =>
      e = .returned (.tuple #[.agg (u8s (Sha.tail (rest.take (n % 64)) n ++ List.replicate (128 - Sha.ends (n % 64)) 0)).toArray, .int .i64 (Sha.ends (n % 64) : Nat)]) ∧ Below w.heap.size w w' := by
  have Hr := Lib.hid hr
  clear hr
  have hg := hL.lt
  have hz := zero54
  go_enter Tryd.func27, Tryd.ntmps27
  go_wp2_with fail
  clear hz
  generalize hw2 : World.alloc (World.alloc _ _) _ = w2
  have h0 : Lies w2 w.heap.size 54 (z8 128) := by rw [← hw2]; exact (Lies.made w _ (z8 128)).alloc _
  have h1 : Lies w2 (w.heap.size + 1) 54 (z8 128) := by rw [← hw2]; exact Lies.new_ (by simp)
  have hL2 : Lies w2 g 51 (hashCells s rest n) := by rw [← hw2]; exact (hL.alloc _).alloc _
  have hb2 : Below w.heap.size w w2 := by rw [← hw2]; exact ((Below.refl _ _).alloc (Nat.le_refl _) _).alloc (by simp) _
  clear hw2
  obtain ⟨m, hm⟩ : ∃ m, n % 64 = m := ⟨_, rfl⟩
  have hm64 : m < 64 := by omega
  have HR : Hid ((u8s (rest.take m)).length = m) := by unfold Hid; rw [u8s_length, List.length_take, Hr.out]; omega
  have hc72 : w2.cell? ⟨g, 72, none⟩ = some (.int .u64 (n : Int)) := by rw [hL2.cell, hash_count _ _ _ Hr.out]
  have i1 : (m : Int) ≤ 64 := by omega
  have i2 : (0 : Int) ≤ (m : Int) := by omega
  have i3 : ¬ ((64 : Int) < (m : Int)) := by omega
  have i4 : m ≤ 64 := by omega
  have HSrc : Hid (∀ j v, (u8s (rest.take m))[j]? = some v → w2.cell? ((⟨g, 8, none⟩ : Addr).add j) = some v) := by
    intro j v hv
    have hj : j < m := by
      have := List.getElem?_eq_some_iff.1 hv
      obtain ⟨hlt, _⟩ := this
      rw [HR.out] at hlt; exact hlt
    have hadd : (⟨g, 8, none⟩ : Addr).add j = ⟨g, 8 + j, none⟩ := by unfold Addr.add; split <;> simp_all
    rw [hadd, hL2.cell, hash_rest s rest n (by rw [Hr.out]; omega)]
    rw [u8s_at _ (by rw [List.length_take, Hr.out]; omega)] at hv
    rw [← hv]
    simp [hj]
  have Hm := Lib.hid hm
  clear hm
  go_region_law (first
    | (refine step_copy_lies rfl (.tmp 8) (.tmp 14) 22 22 rfl 5 Tryd.underlying22 info5 (w.heap.size + 1) 0 (z8 128) 54 (by exact h1) (u8s (rest.take m)) _ _ _ _ _ _ rfl rfl (HR.out.trans (Nat.min_eq_left (by omega)).symm) (fun _ => ⟨rfl, ⟨g, 8, none⟩, rfl, by exact HSrc.out⟩) (by rw [HR.out]; simp [z8]; omega) (u8s_one _) ?_; intro w3 hL3 hg3)
    | (go_simp; go_at_call 25; refine (held_any g n _ (by omega) (by exact hc72)).mono ?_; rintro e w' ⟨rfl, rfl⟩; rw [Hm.out]))
  go_frame
  simp only [HR.out]
  have hL4 : Lies w3 g 51 (hashCells s rest n) := hL2.drew.grown hg3 (by simp; omega)
  have h04 : Lies w3 w.heap.size 54 (z8 128) := h0.drew.grown hg3 (by simp)
  have hb4 : Below w.heap.size w w3 := hb2.drew.grown hg3 hb2.size (by simp)
  clear hL2 h0 hb2 h1 hg3 hc72 HSrc
  rw [u8s_z8, u8s_splice] at hL3
  have hlen : (splice (List.replicate 128 0) 0 (rest.take m)).length = 128 := by
    rw [length_splice _ _ _ (by rw [List.length_take, Hr.out]; simp; omega)]; simp
  obtain ⟨L0, hL0⟩ : ∃ L0, splice (List.replicate 128 0) 0 (rest.take m) = L0 := ⟨_, rfl⟩
  rw [hL0] at hL3 hlen
  have HL0 := Lib.hid hL0
  have Hlen := Lib.hid hlen
  clear hL0 hlen
  have hcm : w3.cell? ⟨w.heap.size + 1, m, none⟩ = some (.int .u8 (L0.getD m 0 : Nat)) := by rw [hL3.cell, u8s_at _ (by rw [Hlen.out]; omega)]
  have hfm := hL3.free m
  go_upto_region 5 with (fail)
  generalize hw5 : World.setCell _ _ _ = w5
  have hL5 : Lies w5 g 51 (hashCells s rest n) := by rw [← hw5]; exact hL4.far (by simp; omega) _
  have h05 : Lies w5 w.heap.size 54 (z8 128) := by rw [← hw5]; exact h04.far (by simp) _
  have hb5 : Below w.heap.size w w5 := by rw [← hw5]; exact hb4.setCell (by simp) _
  have h15 : Lies w5 (w.heap.size + 1) 54 (u8s (splice L0 m [128])) := by
    rw [← hw5, ← u8s_splice]
    have := hL3.put m (.int .u8 128)
    rw [set_splice _ _ _ (by rw [u8s_length, Hlen.out]; omega)] at this
    exact this
  have Hlen1 : Hid ((splice L0 m [128]).length = 128) := by unfold Hid; rw [length_splice _ _ _ (by rw [Hlen.out]; simp; omega), Hlen.out]
  clear hw5 hL4 h04 hb4 hL3 hcm hfm
  obtain ⟨L1, hL1⟩ : ∃ L1, splice L0 m [128] = L1 := ⟨_, rfl⟩
  rw [hL1] at h15 Hlen1
  have HL1 := Lib.hid hL1
  clear hL1
  have hc5 : w5.cell? ⟨g, 72, none⟩ = some (.int .u64 (n : Int)) := by rw [hL5.cell, hash_count _ _ _ Hr.out]
  by_cases hsz : m + 9 ≤ 64
  · have hd : decide ((64 : Int) < (m : Int) + 1 + 8) = false := by simp; omega
    have HS : Hid (Sha.ends m = 64) := by unfold Hid Sha.ends; rw [if_pos hsz]
    go_wp2_with fail
    refine (putWord_v _ _ _ _ _ _ _ _ h15 (by omega) (by omega) (by omega) (by rw [u8s_length, Hlen1.out]; omega)).mono ?_
    rintro e w6 ⟨rfl, h16, hg6⟩
    have h06 := h05.grown hg6 (by simp)
    have hb6 : Below w.heap.size w w6 := hb5.grown hg6 hb5.size (by simp)
    clear hL5 h05 hb5 h15 hg6 hc5
    rw [u8s_splice, show (8 * (n : Int) / 4294967296).toNat = 8 * n % 18446744073709551616 / 4294967296 from by omega] at h16
    have Hlen2 : Hid ((splice L1 56 (Sha.be (8 * n % 18446744073709551616 / 4294967296) 4)).length = 128) := by
      unfold Hid; rw [length_splice _ _ _ (by rw [Sha.be_length, Hlen1.out]; omega), Hlen1.out]
    obtain ⟨L2, hL2⟩ : ∃ L2, splice L1 56 (Sha.be (8 * n % 18446744073709551616 / 4294967296) 4) = L2 := ⟨_, rfl⟩
    rw [hL2] at h16 Hlen2
    have HL2 := Lib.hid hL2
    clear hL2
    go_wp2_with fail
    refine (putWord_v _ _ _ _ _ _ _ _ h16 (by omega) (by omega) (by omega) (by rw [u8s_length, Hlen2.out]; omega)).mono ?_
    rintro e w7 ⟨rfl, h17, hg7⟩
    have h07 := h06.grown hg7 (by simp)
    have hb7 : Below w.heap.size w w7 := hb6.grown hg7 hb6.size (by simp)
    clear h06 hb6 h16 hg7
    rw [u8s_splice, show (8 * (n : Int) % 4294967296).toNat = 8 * n % 18446744073709551616 % 4294967296 from by omega] at h17
    have HF : Hid (splice L2 60 (Sha.be (8 * n % 18446744073709551616 % 4294967296) 4) = Sha.tail (rest.take m) n ++ List.replicate (128 - 64) 0) := by
      have hlm : (rest.take m).length = m := by rw [List.length_take, Hr.out]; omega
      have := last_laid (rest.take m) n (by rw [hlm]; omega)
      rw [hlm, HS.out, HL0.out, HL1.out, HL2.out] at this
      exact this
    rw [HF.out] at h17
    clear HF
    have Hlen3 : Hid ((u8s (Sha.tail (rest.take m) n ++ List.replicate (128 - 64) 0)).length = 128) := by
      have hlm : (rest.take m).length = m := by rw [List.length_take, Hr.out]; omega
      unfold Hid
      rw [u8s_length, List.length_append, Sha.tail_length _ _ (by rw [hlm]; omega), hlm, HS.out]; simp
    obtain ⟨L3, hL3⟩ : ∃ L3, u8s (Sha.tail (rest.take m) n ++ List.replicate (128 - 64) 0) = L3 := ⟨_, rfl⟩
    have Hone : Hid (L3.all (·.oneCell') = true) := by rw [← hL3]; exact List.all_eq_true.2 (u8s_one _)
    rw [hL3] at h17 Hlen3
    have HL3 := Lib.hid hL3
    clear hL3
    go_upto_region 10 with (fail)
    repeat ((fail_if_success (with_reducible show wpList _ _ _ (⟨some 40, _, _, _, _, _⟩ :: _) _ _)); first | go_values | go_skip | go_guarded | go_step | go_upon | go_back)
    with_reducible refine load_lies rfl 54 (.tmp 4) rfl (w.heap.size + 1) 54 L3 _ h17 ?hx Tryd.underlying54 ?hd ?hi ?_
    case hx => rfl
    case hd => rfl
    case hi => (rw [Hlen3.out]; exact info54)
    repeat ((fail_if_success (with_reducible show wpList _ _ _ (⟨none, _, _, _, _, _⟩ :: _) _ _)); first | go_values | go_skip | go_guarded | go_step | go_upon | go_back)
    with_reducible refine store_lies rfl 54 (.tmp 2) (.tmp 40) rfl w.heap.size L3 54 (z8 128) h07 ?sx ?sy ?si ?sl ?s1 ?_
    case sx => rfl
    case sy => rfl
    case si => (rw [z8_length]; exact info54)
    case sl => rw [Hlen3.out, z8_length]
    case s1 => exact Hone.out
    go_wp2
    refine bodyPost_ret (results_two Tryd.results27 _ _ w.heap.size 54 L3 _ rfl h07.row Tryd.underlying54 rfl (by rw [Hlen3.out]; exact info54)) rfl ⟨?_, below_row hb7 (Nat.le_refl _)⟩
    rw [Hm.out, HS.out, HL3.out]; rfl
  · have hd : decide ((64 : Int) < (m : Int) + 1 + 8) = true := by simp; omega
    have HS : Hid (Sha.ends m = 128) := by unfold Hid Sha.ends; rw [if_neg hsz]
    go_wp2_with fail
    refine (putWord_v _ _ _ _ _ _ _ _ h15 (by omega) (by omega) (by omega) (by rw [u8s_length, Hlen1.out]; omega)).mono ?_
    rintro e w6 ⟨rfl, h16, hg6⟩
    have h06 := h05.grown hg6 (by simp)
    have hb6 : Below w.heap.size w w6 := hb5.grown hg6 hb5.size (by simp)
    clear hL5 h05 hb5 h15 hg6 hc5
    rw [u8s_splice, show (8 * (n : Int) / 4294967296).toNat = 8 * n % 18446744073709551616 / 4294967296 from by omega] at h16
    have Hlen2 : Hid ((splice L1 120 (Sha.be (8 * n % 18446744073709551616 / 4294967296) 4)).length = 128) := by
      unfold Hid; rw [length_splice _ _ _ (by rw [Sha.be_length, Hlen1.out]; omega), Hlen1.out]
    obtain ⟨L2, hL2⟩ : ∃ L2, splice L1 120 (Sha.be (8 * n % 18446744073709551616 / 4294967296) 4) = L2 := ⟨_, rfl⟩
    rw [hL2] at h16 Hlen2
    have HL2 := Lib.hid hL2
    clear hL2
    go_wp2_with fail
    refine (putWord_v _ _ _ _ _ _ _ _ h16 (by omega) (by omega) (by omega) (by rw [u8s_length, Hlen2.out]; omega)).mono ?_
    rintro e w7 ⟨rfl, h17, hg7⟩
    have h07 := h06.grown hg7 (by simp)
    have hb7 : Below w.heap.size w w7 := hb6.grown hg7 hb6.size (by simp)
    clear h06 hb6 h16 hg7
    rw [u8s_splice, show (8 * (n : Int) % 4294967296).toNat = 8 * n % 18446744073709551616 % 4294967296 from by omega] at h17
    have HF : Hid (splice L2 124 (Sha.be (8 * n % 18446744073709551616 % 4294967296) 4) = Sha.tail (rest.take m) n ++ List.replicate (128 - 128) 0) := by
      have hlm : (rest.take m).length = m := by rw [List.length_take, Hr.out]; omega
      have := last_laid (rest.take m) n (by rw [hlm]; omega)
      rw [hlm, HS.out, HL0.out, HL1.out, HL2.out] at this
      exact this
    rw [HF.out] at h17
    clear HF
    have Hlen3 : Hid ((u8s (Sha.tail (rest.take m) n ++ List.replicate (128 - 128) 0)).length = 128) := by
      have hlm : (rest.take m).length = m := by rw [List.length_take, Hr.out]; omega
      unfold Hid
      rw [u8s_length, List.length_append, Sha.tail_length _ _ (by rw [hlm]; omega), hlm, HS.out]; simp
    obtain ⟨L3, hL3⟩ : ∃ L3, u8s (Sha.tail (rest.take m) n ++ List.replicate (128 - 128) 0) = L3 := ⟨_, rfl⟩
    have Hone : Hid (L3.all (·.oneCell') = true) := by rw [← hL3]; exact List.all_eq_true.2 (u8s_one _)
    rw [hL3] at h17 Hlen3
    have HL3 := Lib.hid hL3
    clear hL3
    go_upto_region 10 with (fail)
    repeat ((fail_if_success (with_reducible show wpList _ _ _ (⟨some 40, _, _, _, _, _⟩ :: _) _ _)); first | go_values | go_skip | go_guarded | go_step | go_upon | go_back)
    with_reducible refine load_lies rfl 54 (.tmp 4) rfl (w.heap.size + 1) 54 L3 _ h17 ?hx Tryd.underlying54 ?hd ?hi ?_
    case hx => rfl
    case hd => rfl
    case hi => (rw [Hlen3.out]; exact info54)
    repeat ((fail_if_success (with_reducible show wpList _ _ _ (⟨none, _, _, _, _, _⟩ :: _) _ _)); first | go_values | go_skip | go_guarded | go_step | go_upon | go_back)
    with_reducible refine store_lies rfl 54 (.tmp 2) (.tmp 40) rfl w.heap.size L3 54 (z8 128) h07 ?sx ?sy ?si ?sl ?s1 ?_
    case sx => rfl
    case sy => rfl
    case si => (rw [z8_length]; exact info54)
    case sl => rw [Hlen3.out, z8_length]
    case s1 => exact Hone.out
    go_wp2
    refine bodyPost_ret (results_two Tryd.results27 _ _ w.heap.size 54 L3 _ rfl h07.row Tryd.underlying54 rfl (by rw [Hlen3.out]; exact info54)) rfl ⟨?_, below_row hb7 (Nat.le_refl _)⟩
    rw [Hm.out, HS.out, HL3.out]; rfl
end Go.Proofs.YtkfhfokeoieajaaDoor
