/-
  The contract of digest.spread: the schedule of a group.
-/
import Derived.Test.YtkfhfokeoieajaaDoorWords
import Derived.Test.YtkfhfokeoieajaaDoorMem
import Derived.Outline
namespace Go.Proofs.YtkfhfokeoieajaaDoor
open Go.RowKit
open Sha (rotr)

def u32s (l : List Sha.W) : List Value := l.map fun x => .int .u32 (x.toNat : Int)
def z32 (n : Nat) : List Value := List.replicate n (.int .u32 0)
/-- The words so far, and zeros up to 64. -/
def fill (l : List Sha.W) : List Value := u32s l ++ z32 (64 - l.length)

theorem fill_at (l : List Sha.W) {j : Nat} (hj : j < l.length) : (fill l)[j]? = some (.int .u32 ((l.getD j 0).toNat : Int)) := by
  unfold fill u32s
  rw [List.getElem?_append_left (by simpa using hj), List.getElem?_map, List.getD_eq_getElem?_getD, List.getElem?_eq_getElem hj]; rfl
theorem fill_next (l : List Sha.W) (hl : l.length < 64) : (fill l)[l.length]? = some (.int .u32 0) := by
  unfold fill u32s z32
  rw [List.getElem?_append_right (by simp)]
  obtain ⟨m, hm⟩ : ∃ m, 64 - l.length = m + 1 := ⟨63 - l.length, by omega⟩
  simp [hm, List.replicate_succ]
theorem fill_snoc (l : List Sha.W) (x : Sha.W) (hl : l.length < 64) : (fill l).set l.length (.int .u32 (x.toNat : Int)) = fill (l ++ [x]) := by
  unfold fill u32s z32
  rw [List.set_append_right _ _ (by simp)]
  obtain ⟨m, hm⟩ : ∃ m, 64 - l.length = m + 1 := ⟨63 - l.length, by omega⟩
  have hm' : 64 - (l.length + 1) = m := by omega
  simp [hm, hm', List.replicate_succ]

theorem info60 : (Tryd.prog.info? 60).map (·.size) = some 64 := by kernel_rfl
theorem fill_full (p : List Nat) : fill (Sha.sched p (64 - 16)) = u32s (Sha.sched p 48) := by
  unfold fill
  rw [Sha.sched_length]
  simp [z32]
theorem full_size (p : List Nat) : (u32s (Sha.sched p 48)).toArray.size = 64 := by simp [u32s, Sha.sched_length]
theorem u32s_one (l : List Sha.W) : (u32s l).toArray.all (·.oneCell') = true := by
  simp [u32s, Value.oneCell']
theorem full_one (p : List Nat) : (u32s (Sha.sched p 48)).toArray.all (·.oneCell') = true := u32s_one _

set_option maxHeartbeats 400000 in
theorem spread_any (b off n c : Nat) (p : List Nat) (w : World) (hn : 64 ≤ n) (hnc : n ≤ c) (hcm : c ≤ 9223372036854775807) (hp : p.length = 64) (hbw : b < w.heap.size)
    (hc : BytesAt w b off p) :
    Calls Tryd.prog 31 #[.slice (some ⟨b, off, none⟩) n c] w fun e w' => e = .returned (.agg (u32s (Sha.sched p 48)).toArray) ∧ Below w.heap.size w w' := by
  have Hp := Lib.hid hp
  clear hp
  go_enter Tryd.func31, Tryd.ntmps31
  go_wp2
  go_loopw [10] (fun i wr => ∃ k : Nat, k ≤ 16 ∧ i = .int .i64 k ∧ Lies wr (w.heap.size + 1) 60 (fill (Sha.first p k)) ∧ Lies wr w.heap.size 60 (z32 64) ∧ Below w.heap.size w wr)
    (fun i _ => 16 - (intOf i).toNat)
  case atStart =>
    refine ⟨0, Nat.zero_le _, rfl, ?_, ?_, ?_⟩
    · exact Lies.new_ (cs := z32 64) (by simp)
    · exact (Lies.made w 60 (z32 64)).alloc _
    · exact ((Below.refl _ _).alloc (Nat.le_refl _) _).alloc (by simp) _
  case round =>
    obtain ⟨k, hk, rfl, hW, hZ, hbel⟩ := hrel
    by_cases hlt : k < 16
    · have x4 : 4 * k < c := by omega
      have hcr := hc.below hbel hbw
      go_wp2_with fail
      have g0 := hcr.get (j := 4 * k) (by rw [Hp.out]; omega)
      have g1 := hcr.get (j := 4 * k + 1) (by rw [Hp.out]; omega)
      have g2 := hcr.get (j := 4 * k + 2) (by rw [Hp.out]; omega)
      have g3 := hcr.get (j := 4 * k + 3) (by rw [Hp.out]; omega)
      refine (word_any b (off + 4 * k) (n - 4 * k) (c - 4 * k) (p.getD (4 * k) 0) (p.getD (4 * k + 1) 0) (p.getD (4 * k + 2) 0) (p.getD (4 * k + 3) 0) wr (by omega)
        (hcr.lt _) (hcr.lt _) (hcr.lt _) (hcr.lt _) g0 g1 g2 g3).mono ?_
      clear g0 g1 g2 g3
      rintro e w1 ⟨rfl, q, rfl⟩
      have hl := Sha.first_length p k
      have hcell : (wr.drewN q).cell? ⟨w.heap.size + 1, k, none⟩ = some (.int .u32 0) := by
        have := (hW.drewN q).cell k
        rw [this]
        have := fill_next (Sha.first p k) (by omega)
        rwa [hl] at this
      have hfree := (hW.drewN q).free k
      have HN : Hid (Lies ((wr.drewN q).setCell ⟨w.heap.size + 1, k, none⟩ (.int .u32 ((Sha.wordAt p k).toNat : Int))) (w.heap.size + 1) 60 (fill (Sha.first p (k + 1)))) := by
        have := (hW.drewN q).put k (.int .u32 ((Sha.wordAt p k).toNat : Int))
        have e := fill_snoc (Sha.first p k) (Sha.wordAt p k) (by omega)
        rw [hl] at e
        rw [e] at this
        exact this
      clear hl
      go_wp2
      go_roundw
      case rel => exact ⟨k + 1, by omega, by go_num, HN.out, (hZ.drewN q).far (by simp) _, (below_drewN hbel q).setCell (by simp) _⟩
      case measure => simp [intOf]; omega
    · obtain rfl : k = 16 := by omega
      clear hlt hk
      obtain ⟨wo, rfl⟩ : ∃ wo : World, wo = wr := ⟨_, rfl⟩
      rw [show ((16 : Nat) : Int) = 16 from rfl]
      go_wp2_with fail
      go_loopw [5] (fun i w2 => ∃ t : Nat, 16 ≤ t ∧ t ≤ 64 ∧ i = .int .i64 t ∧ Lies w2 (w.heap.size + 1) 60 (fill (Sha.sched p (t - 16))) ∧ Lies w2 w.heap.size 60 (z32 64) ∧ Below w.heap.size w w2)
        (fun i _ => 64 - (intOf i).toNat)
      case atStart => exact ⟨16, Nat.le_refl _, by omega, rfl, hW, hZ, hbel⟩
      case round =>
        obtain ⟨t, h16, h64, rfl, hW2, hZ2, hbel2⟩ := hrel
        clear hW hZ hbel
        by_cases ht : t < 64
        · have HL := Lib.hid (Sha.sched_length p (t - 16))
          obtain ⟨l, hl⟩ : ∃ l, Sha.sched p (t - 16) = l := ⟨_, rfl⟩
          rw [hl] at HL hW2
          have Hl := Lib.hid hl
          clear hl
          have HLt : Hid (l.length = t) := by have := HL.out; unfold Hid; omega
          obtain ⟨x0, hx0⟩ : ∃ x, l.getD (t - 16) 0 = x := ⟨_, rfl⟩
          obtain ⟨x1, hx1⟩ : ∃ x, l.getD (t - 15) 0 = x := ⟨_, rfl⟩
          obtain ⟨x2, hx2⟩ : ∃ x, l.getD (t - 7) 0 = x := ⟨_, rfl⟩
          obtain ⟨x3, hx3⟩ : ∃ x, l.getD (t - 2) 0 = x := ⟨_, rfl⟩
          have c0 : wr.cell? ⟨w.heap.size + 1, t - 16, none⟩ = some (.int .u32 (x0.toNat : Int)) := by rw [hW2.cell, fill_at l (by rw [HLt.out]; omega), hx0]
          have c1 : wr.cell? ⟨w.heap.size + 1, t - 15, none⟩ = some (.int .u32 (x1.toNat : Int)) := by rw [hW2.cell, fill_at l (by rw [HLt.out]; omega), hx1]
          have c2 : wr.cell? ⟨w.heap.size + 1, t - 7, none⟩ = some (.int .u32 (x2.toNat : Int)) := by rw [hW2.cell, fill_at l (by rw [HLt.out]; omega), hx2]
          have c3 : wr.cell? ⟨w.heap.size + 1, t - 2, none⟩ = some (.int .u32 (x3.toNat : Int)) := by rw [hW2.cell, fill_at l (by rw [HLt.out]; omega), hx3]
          have c4 : wr.cell? ⟨w.heap.size + 1, t, none⟩ = some (.int .u32 0) := by
            have := fill_next l (by rw [HLt.out]; omega)
            rw [HLt.out] at this
            rw [hW2.cell, this]
          have f4 := hW2.free t
          have Hx0 := Lib.hid hx0
          have Hx1 := Lib.hid hx1
          have Hx2 := Lib.hid hx2
          have Hx3 := Lib.hid hx3
          clear hx0 hx1 hx2 hx3
          go_wp2_with fail
          go_quiet (fail)
          go_wp2_with (go_at_call 32; refine (rot_int _ _ (by omega) (by omega) _).mono ?_; rintro e w' ⟨rfl, rfl⟩)
          simp only [sig0_of, sig1_of]
          go_region
          have HN : Hid (Lies ((wr.drewN (nq + 1)).setCell ⟨w.heap.size + 1, t, none⟩ (.int .u32 (((x0.toNat : Int) + ((Sha.sig0 x1).toNat : Int) + (x2.toNat : Int) + ((Sha.sig1 x3).toNat : Int)) % 4294967296)))
              (w.heap.size + 1) 60 (fill (Sha.sched p (t + 1 - 16)))) := by
            rw [add4_of]
            have := (hW2.drewN (nq + 1)).put t (.int .u32 ((x0 + Sha.sig0 x1 + x2 + Sha.sig1 x3).toNat : Int))
            have e := fill_snoc l (x0 + Sha.sig0 x1 + x2 + Sha.sig1 x3) (by rw [HLt.out]; omega)
            rw [HLt.out] at e
            rw [e] at this
            have e2 : Sha.sched p (t + 1 - 16) = l ++ [x0 + Sha.sig0 x1 + x2 + Sha.sig1 x3] := by
              rw [show t + 1 - 16 = (t - 16) + 1 from by omega, Sha.sched, Hl.out, Sha.ext, HLt.out, Hx0.out, Hx1.out, Hx2.out, Hx3.out]
            rw [e2]
            exact this
          clear c0 c1 c2 c3 c4 f4
          go_wp2
          go_roundw
          case rel => exact ⟨t + 1, by omega, by omega, by go_num, HN.out, (hZ2.drewN _).far (by simp) _, (below_drewN hbel2 _).setCell (by simp) _⟩
          case measure => simp [intOf]; omega
        · obtain rfl : t = 64 := by omega
          clear ht h16 h64
          have HS := Lib.hid (fill_full p)
          rw [HS.out] at hW2
          have hs1 := full_size p
          have ho1 := full_one p
          go_wp2_with (first
            | (refine wpList_load_row rfl 60 (.tmp 3) rfl (w.heap.size + 1) rfl 60 _ (0, 0) _ hW2 Tryd.underlying60 rfl (by rw [hs1]; exact info60) ?_)
            | (refine wpList_store_row rfl 60 (.tmp 2) (.tmp 64) rfl w.heap.size (u32s (Sha.sched p 48)).toArray rfl rfl 60 _ hZ2 (by rw [hs1]; exact info60) (by rw [hs1]; simp [z32]) ho1 ?_))
          refine bodyPost_ret (results_cell_row Tryd.results31 _ _ w.heap.size 60 (u32s (Sha.sched p 48)).toArray (0, 0) _ rfl ?_ Tryd.underlying60 rfl (by rw [hs1]; exact info60)) rfl ⟨rfl, ?_⟩
          · exact hZ2.row
          · exact below_row hbel2 (Nat.le_refl _)
end Go.Proofs.YtkfhfokeoieajaaDoor
